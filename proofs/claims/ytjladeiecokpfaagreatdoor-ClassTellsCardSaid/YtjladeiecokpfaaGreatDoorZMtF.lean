/- Parts of elder texts that this layer needs, joined: XMtF XMtM. -/
import Derived.Test.YtjladeiecokpfaaGreatDoorZMtA
import Derived.Lib.SplitLaws
import Derived.Test.YtjladeiecokpfaaGreatDoorZMtP
import Derived.Test.YtjladeiecokpfaaGreatDoorZFlC
import Derived.Test.YtjladeiecokpfaaGreatDoorZPlB
import Derived.Test.YtjladeiecokpfaaGreatDoorZPk
namespace Go.Proofs.YtjladeiecokpfaaGreatDoor
open Go.RowKit

theorem index_split (c : UInt8) : ∀ l : List UInt8, (Lib.index l [c] = -1 ∧ c ∉ l) ∨ ∃ a b, l = a ++ c :: b ∧ c ∉ a ∧ Lib.index l [c] = (a.length : Nat)
  | [] => .inl ⟨rfl, by simp⟩
  | x :: l => by
    by_cases h : x = c
    · subst h
      exact .inr ⟨[], l, rfl, by simp, by rw [Lib.index]; simp [List.isPrefixOf]⟩
    · have hp : ([c] : List UInt8).isPrefixOf (x :: l) = false := by simp [List.isPrefixOf, Ne.symm h]
      have hix : Lib.index (x :: l) [c] = if Lib.index l [c] == -1 then -1 else Lib.index l [c] + 1 := by rw [Lib.index, hp]; simp
      rcases index_split c l with ⟨h1, h2⟩ | ⟨a, b, h1, h2, h3⟩
      · exact .inl ⟨by rw [hix, h1]; rfl, by simp [h2, Ne.symm h]⟩
      · refine .inr ⟨x :: a, b, by rw [h1]; rfl, by simp [h2, Ne.symm h], ?_⟩
        rw [hix, h3, if_neg (by simp)]
        simp
theorem splitK_colon : ∀ (k : Nat) (l : List UInt8), l.count 58 = k → (Lib.splitK [58] 0 k l).map (fun s => s.map UInt8.toNat) = Mt.split (l.map UInt8.toNat)
  | 0, l, h => by
    have hn : (58 : Nat) ∉ l.map UInt8.toNat := by
      intro hm
      obtain ⟨u, h1, h2⟩ := List.mem_map.1 hm
      have : u = 58 := UInt8.toNat_inj.1 h2
      subst this
      exact List.count_eq_zero.1 h h1
    rw [Mt.split_one hn]
    rfl
  | k + 1, l, h => by
    rcases index_split 58 l with ⟨_, h2⟩ | ⟨a, b, h1, h2, h3⟩
    · rw [List.count_eq_zero.2 h2] at h; cases h
    · unfold Lib.splitK
      rw [h3, if_neg (by simp)]
      have hb : b.count 58 = k := by
        rw [h1, List.count_append, List.count_cons_self, List.count_eq_zero.2 h2] at h
        omega
      have e1 : l.take (((a.length : Nat) : Int).toNat + 0) = a := by rw [h1]; simp
      have e2 : l.drop (((a.length : Nat) : Int).toNat + [(58 : UInt8)].length) = b := by
        rw [h1]
        simp [List.drop_append]
      rw [e1, e2, List.map_cons, splitK_colon k b hb, h1, List.map_append, List.map_cons]
      rw [show (58 : UInt8).toNat = 58 from rfl]
      refine (Mt.split_two (fun hm => ?_)).symm
      obtain ⟨u, h5, h6⟩ := List.mem_map.1 hm
      have : u = 58 := UInt8.toNat_inj.1 h6
      subst this
      exact h2 h5
/-- The pieces that Split gives. -/
theorem pieces (s : ByteArray) : ((Lib.splitB ⟨#[58]⟩ 0 (Lib.countB s ⟨#[58]⟩) s).map Lg.bytes) = Mt.split (Lg.bytes s) ∧ (Lib.splitB ⟨#[58]⟩ 0 (Lib.countB s ⟨#[58]⟩) s).length = Lib.countB s ⟨#[58]⟩ + 1 := by
  refine ⟨?_, Lib.splitB_all _ (by decide) 0 _ s rfl⟩
  have h := splitK_colon _ s.data.toList rfl
  rw [← Lib.count_one 58 s.data.toList] at h
  rw [show Lg.bytes = (fun t : List UInt8 => t.map UInt8.toNat) ∘ (fun t : ByteArray => t.data.toList) from rfl, ← List.map_map, Lib.splitB_data]
  exact h

/-- A row of strings. -/
def StrsAt (w : World) (B : Nat) (A : Option Addr) (l : List ByteArray) : Prop := 0 < l.length → ∃ ad, A = some ad ∧ ad.block < B ∧ ∀ i s, l[i]? = some s → w.cell? (ad.add i) = some (.string s)
theorem StrsAt.grew {w w' : World} {A : Option Addr} {l : List ByteArray} (h : StrsAt w w.heap.size A l) (hg : Grew w w') : StrsAt w' w'.heap.size A l := fun hl => by
  obtain ⟨ad, h1, h2, h3⟩ := h hl
  exact ⟨ad, h1, Nat.lt_of_lt_of_le h2 hg.below.size, fun i s hi => (hg.below.cell (by rw [block_add]; exact h2)).trans (h3 i s hi)⟩
/-- What Arity answers. -/
def ArPost (w : World) (r : Option Nat) (e : Ending) (w' : World) : Prop := e = .returned (.tuple #[.int .i64 ((r.getD 0 : Nat) : Int), .bool r.isSome]) ∧ Grew w w'
/-- How many names. -/
def kw (l : List ByteArray) : Option Nat := if l.length ≤ 8 ∧ l.all (fun s => Mt.isName (Lg.bytes s)) = true then some l.length else none
set_option maxRecDepth 100000 in
set_option maxHeartbeats 1000000 in
theorem keywords_c (A : Option Addr) (c : Nat) (l : List ByteArray) (w : World) (h : StrsAt w w.heap.size A l) (hl : l.length ≤ 1000000000000) :
    Calls Tryz.prog 96 #[.slice A l.length c] w (ArPost w (kw l)) := by
  obtain ⟨n, en⟩ : ∃ n, n = l.length := ⟨_, rfl⟩
  have HA := hid h
  rw [← en] at hl ⊢
  have EN := hid en
  clear h
  by_cases h8 : n ≤ 8
  · have f8 : ¬ (8 : Int) < (n : Int) := by omega
    have H8 := hid h8
    clear h8 en
    go_enter Tryz.func96, Tryz.ntmps96
    go_wp2_with fail
    go_loopw [5, 11] (fun _ s11 wr => ∃ i : Nat, s11 = .int .i64 ((i : Nat) : Int) ∧ i ≤ n ∧ Grew w wr ∧ Hid ((l.take i).all (fun s => Mt.isName (Lg.bytes s)) = true)) (fun _ s11 _ => n - (intOf s11).toNat)
    case atStart => exact ⟨0, rfl, Nat.zero_le _, Grew.refl _, hid (by simp)⟩
    case round =>
      obtain ⟨i, rfl, hi, hg, HP⟩ := hrel
      have HG := hid hg
      clear hg
      by_cases hlt : i < n
      · have f1 : (i : Int) < n := by omega
        obtain ⟨ad, rfl, hb, hc⟩ := HA.out (by rw [← EN.out]; omega)
        obtain ⟨s, hs⟩ : ∃ s, l[i]? = some s := ⟨_, List.getElem?_eq_getElem (show i < l.length by rw [← EN.out]; exact hlt)⟩
        have q := (HG.out.below.cell (p := ad.add i) (by rw [block_add]; exact hb)).trans (hc i s hs)
        have HN := hid (isName_c s wr)
        have HT : Hid ((l.take (i + 1)).all (fun s => Mt.isName (Lg.bytes s)) = Mt.isName (Lg.bytes s)) := hid (by
          rw [List.take_add_one, hs, List.all_append, HP.out]
          simp)
        have HX : Hid (Mt.isName (Lg.bytes s) = false → l.all (fun s => Mt.isName (Lg.bytes s)) = false) := hid (fun hf => by
          rw [List.all_eq_false]
          exact ⟨s, List.mem_of_getElem? hs, by rw [hf]; decide⟩)
        generalize Mt.isName (Lg.bytes s) = b at HN HT HX
        clear hc hs
        cases b
        · go_wp2_with fail
          refine HN.out.mono ?_
          rintro e w2 ⟨rfl, hg2⟩
          go_wp2_with fail
          go_ret2
          refine ⟨?_, HG.out.trans hg2⟩
          rw [kw, if_neg (fun h => by rw [HX.out (by trivial)] at h; exact absurd h.2 (by decide))]
          rfl
        · go_wp2_with fail
          refine HN.out.mono ?_
          rintro e w2 ⟨rfl, hg2⟩
          go_wp2_with fail
          go_round
          case rel => exact ⟨i + 1, by go_num, by omega, HG.out.trans hg2, HT⟩
          case measure => simp [intOf]; omega
      · have hin : i = n := by omega
        subst hin
        go_wp2_with fail
        go_ret2
        refine ⟨?_, HG.out⟩
        have := HP.out
        rw [EN.out, List.take_length] at this
        rw [kw, if_pos ⟨by rw [← EN.out]; exact H8.out, this⟩, ← EN.out]
        rfl
  · have f8 : (8 : Int) < (n : Int) := by omega
    have H8 := hid h8
    clear h8 en
    go_enter Tryz.func96, Tryz.ntmps96
    go_wp2_with fail
    go_ret2
    refine ⟨?_, Grew.refl _⟩
    rw [kw, if_neg (fun h => H8.out (by rw [EN.out]; exact h.1))]
    rfl
theorem suffix_yes {s : ByteArray} (h : Lib.hasSuffix s.data.toList [58] = true) : (Lg.bytes s).getLast? = some 58 ∧ Lg.bytes ⟨(Lib.trimSuffix s.data.toList [58]).toArray⟩ = (Lg.bytes s).dropLast := by
  have h2 := h
  rw [Lib.hasSuffix, List.isSuffixOf_iff_suffix] at h
  obtain ⟨m, hm⟩ := h
  rw [Lib.trimSuffix, h2, if_pos rfl, Lg.bytes, Lg.bytes, ← hm]
  simp
theorem suffix_no {s : ByteArray} (h : Lib.hasSuffix s.data.toList [58] = false) : (Lg.bytes s).getLast? ≠ some 58 := by
  intro e
  rw [Lg.bytes, List.getLast?_map] at e
  obtain ⟨u, h1, h2⟩ := Option.map_eq_some_iff.1 e
  have : u = 58 := UInt8.toNat_inj.1 h2
  subst this
  have h3 : Lib.hasSuffix s.data.toList [58] = true := by
    rw [Lib.hasSuffix, List.isSuffixOf_iff_suffix]
    obtain ⟨ys, hy⟩ := List.getLast?_eq_some_iff.1 h1
    exact ⟨ys, hy.symm⟩
  rw [h] at h3
  cases h3
def MaxAt (w : World) : Prop := ∃ m, w.cell? ⟨1, 0, none⟩ = some (.int .i64 m)
theorem MaxAt.grew {w w' : World} (h : MaxAt w) (hg : Grew w w') : MaxAt w' := by
  obtain ⟨m, hm⟩ := h
  exact ⟨m, (hg.below.cell (World.block_lt_of_cell? w _ hm)).trans hm⟩
theorem strs_new (w : World) (l : List ByteArray) (t : TypeId) : StrsAt (w.alloc (.cells (l.map Value.string).toArray t)) (w.alloc (.cells (l.map Value.string).toArray t)).heap.size (some ⟨w.heap.size, 0, none⟩) l := fun _ => by
  refine ⟨_, rfl, by simp, fun i s hi => ?_⟩
  rw [show (⟨w.heap.size, 0, none⟩ : Addr).add i = ⟨w.heap.size, i, none⟩ by unfold Addr.add; split <;> simp_all, (Blk.new w t _).cell i, List.getElem?_toArray, List.getElem?_map, hi]
  rfl
set_option maxRecDepth 100000 in
set_option maxHeartbeats 1000000 in
theorem arity_c (s : ByteArray) (w : World) (hM : MaxAt w) : Calls Tryz.prog 76 #[.string s] w (ArPost w (Mt.arity (Lg.bytes s))) := by
  unfold Mt.arity
  rw [Lg.bytes_len]
  by_cases h64 : 64 < s.size
  · rw [if_pos h64]
    have f1 : (64 : Int) < (s.size : Int) := by omega
    clear h64
    go_enter Tryz.func76, Tryz.ntmps76
    go_wp2_with fail
    go_ret2
    exact ⟨rfl, Grew.refl _⟩
  · rw [if_neg h64]
    have f1 : ¬ (64 : Int) < (s.size : Int) := by omega
    have HCut := hid (Tryz.strings_CutSuffix s ⟨#[58]⟩ w (by omega))
    rw [show (⟨#[58]⟩ : ByteArray).data.toList = [58] from rfl] at HCut
    cases hsuf : Lib.hasSuffix s.data.toList [58]
    · rw [if_neg (suffix_no hsuf)]
      rw [hsuf] at HCut
      have HB := hid (isBinary_c s w)
      have HN := hid (fun (w' : World) => isName_c s w')
      generalize Mt.isBin (Lg.bytes s) = b at *
      generalize Mt.isName (Lg.bytes s) = q at *
      generalize (⟨(Lib.trimSuffix s.data.toList [58]).toArray⟩ : ByteArray) = t at *
      clear h64 hsuf
      cases b
      · obtain ⟨r, hr⟩ : ∃ r, r = (if false = true then some 1 else if q = true then some 0 else (none : Option Nat)) := ⟨_, rfl⟩
        rw [← hr]
        have HR := hid hr
        clear hr
        go_enter Tryz.func76, Tryz.ntmps76
        go_wp2_with fail
        refine HCut.out.mono ?_
        rintro e w1 ⟨rfl, rfl⟩
        go_wp2_with fail
        refine HB.out.mono ?_
        rintro e w1 ⟨rfl, hg1⟩
        have HG1 := hid hg1
        clear hg1
        go_wp2_with fail
        refine (HN.out _).mono ?_
        rintro e w1 ⟨rfl, hg2⟩
        go_wp2_with fail
        go_ret2
        rw [HR.out]
        exact ⟨by cases q <;> rfl, HG1.out.trans hg2⟩
      · rw [if_pos rfl]
        go_enter Tryz.func76, Tryz.ntmps76
        go_wp2_with fail
        refine HCut.out.mono ?_
        rintro e w1 ⟨rfl, rfl⟩
        go_wp2_with fail
        refine HB.out.mono ?_
        rintro e w1 ⟨rfl, hg1⟩
        have HG1 := hid hg1
        clear hg1
        go_wp2_with fail
        go_ret2
        exact ⟨rfl, HG1.out⟩
    · obtain ⟨e1, e2⟩ := suffix_yes hsuf
      rw [if_pos e1, ← e2]
      rw [hsuf] at HCut
      have hsz : (⟨(Lib.trimSuffix s.data.toList [58]).toArray⟩ : ByteArray).size ≤ 64 := by
        rw [← Lg.bytes_len, e2, List.length_dropLast, Lg.bytes_len]; omega
      generalize (⟨(Lib.trimSuffix s.data.toList [58]).toArray⟩ : ByteArray) = t at *
      obtain ⟨m, hm⟩ := hM
      have HS := hid (Tryz.strings_Split t ⟨#[58]⟩ m w (by omega) hm (by decide))
      obtain ⟨p1, p2⟩ := pieces t
      have hcl : Lib.countB t ⟨#[58]⟩ ≤ t.size := Lib.countB_le _ (by decide) t.size t (Nat.le_refl _)
      have HK : Mt.keys (Lg.bytes t) = kw (Lib.splitB ⟨#[58]⟩ 0 (Lib.countB t ⟨#[58]⟩) t) := by
        unfold Mt.keys kw
        rw [← p1, List.length_map, List.all_map]
        rfl
      rw [HK]
      generalize hP : Lib.splitB ⟨#[58]⟩ 0 (Lib.countB t ⟨#[58]⟩) t = P at *
      rw [← p2] at HS
      have HW := hid (keywords_c (some ⟨w.heap.size, 0, none⟩) P.length P _ (strs_new w P 9) (by omega))
      have HG := hid ((Grew.refl w).alloc (.cells (P.map Value.string).toArray 9))
      clear h64 hsuf e1 e2 hm p1 hP p2 hcl hsz HK
      generalize kw P = r at *
      generalize w.alloc (.cells (P.map Value.string).toArray 9) = w2 at *
      go_enter Tryz.func76, Tryz.ntmps76
      go_wp2_with fail
      refine HCut.out.mono ?_
      rintro e w1 ⟨rfl, rfl⟩
      go_wp2_with fail
      refine HS.out.mono ?_
      rintro e w3 ⟨rfl, rfl⟩
      go_wp2_with fail
      refine HW.out.mono ?_
      rintro e w3 ⟨rfl, hg⟩
      go_wp2_with fail
      go_ret2
      exact ⟨rfl, HG.out.trans hg⟩
end Go.Proofs.YtjladeiecokpfaaGreatDoor
namespace Go.Proofs.YtjladeiecokpfaaGreatDoor
open Go.RowKit

theorem add_pos {a : Addr} {j : Nat} (hj : j ≠ 0) : a.add j = ⟨a.block, a.off + j, none⟩ := by simp [Addr.add, hj]
def litCells2 (x : Mt.Lit) : Array Value := #[.int .u8 ((x.k : Nat) : Int), .string x.s]
/-- Literals that lie one behind the other. -/
def LitsAt (w : World) (A : Option Addr) (l : List Mt.Lit) : Prop :=
  (∀ x ∈ l, x.k < 256 ∧ x.s.size ≤ 2000) ∧ (0 < l.length → ∃ ad, A = some ad ∧ ad.block < w.heap.size ∧ ∀ i x, l[i]? = some x → ∀ j u, (litCells2 x)[j]? = some u → w.cell? (ad.add (i * 2 + j)) = some u)
theorem lit_cell {w : World} {ad : Addr} {i : Nat} {x : Mt.Lit} (h : ∀ j u, (litCells2 x)[j]? = some u → w.cell? (ad.add (i * 2 + j)) = some u) :
    w.cell? (ad.add (i * 2)) = some (.int .u8 ((x.k : Nat) : Int)) ∧ w.cell? ⟨ad.block, (ad.add (i * 2)).off + 1, none⟩ = some (.string x.s) := by
  refine ⟨h 0 _ rfl, ?_⟩
  have := h 1 _ rfl
  rwa [← add_add, add_pos (by decide), block_add] at this
theorem LitsAt.grew {w w' : World} {A : Option Addr} {l : List Mt.Lit} (h : LitsAt w A l) (hg : Grew w w') : LitsAt w' A l := ⟨h.1, fun hl => by
  obtain ⟨ad, h1, h2, h3⟩ := h.2 hl
  exact ⟨ad, h1, Nat.lt_of_lt_of_le h2 hg.below.size, fun i x hi j u hu => (hg.below.cell (by rw [block_add]; exact h2)).trans (h3 i x hi j u hu)⟩⟩
/-- A part, and where its code lies. -/
structure PV where
  p : Mt.Part
  A : Option Addr
  c : Nat
def pvCells (v : PV) : Array Value := #[.int .i64 v.p.outer, .int .i64 v.p.args, .int .i64 v.p.temps, .slice v.A v.p.code.length v.c]
def PvOk (w : World) (v : PV) : Prop := BytesAt w w.heap.size v.A v.p.code ∧ v.p.code.length ≤ v.c ∧ v.c ≤ 9223372036854775807 ∧ v.p.code.length ≤ 1000
theorem PvOk.grew {w w' : World} {v : PV} (h : PvOk w v) (hg : Grew w w') : PvOk w' v := ⟨h.1.grew hg, h.2⟩
/-- Parts that lie one behind the other. -/
def PartsAt (w : World) (A : Option Addr) (l : List PV) : Prop :=
  (∀ v ∈ l, PvOk w v) ∧ (0 < l.length → ∃ ad, A = some ad ∧ ad.block < w.heap.size ∧ ∀ i v, l[i]? = some v → ∀ j u, (pvCells v)[j]? = some u → w.cell? (ad.add (i * 4 + j)) = some u)
theorem pv_cell {w : World} {ad : Addr} {i : Nat} {v : PV} (h : ∀ j u, (pvCells v)[j]? = some u → w.cell? (ad.add (i * 4 + j)) = some u) :
    w.cell? (ad.add (i * 4)) = some (.int .i64 v.p.outer) ∧ w.cell? ⟨ad.block, (ad.add (i * 4)).off + 1, none⟩ = some (.int .i64 v.p.args) ∧ w.cell? ⟨ad.block, (ad.add (i * 4)).off + 2, none⟩ = some (.int .i64 v.p.temps) ∧ w.cell? ⟨ad.block, (ad.add (i * 4)).off + 3, none⟩ = some (.slice v.A v.p.code.length v.c) := by
  refine ⟨h 0 _ rfl, ?_, ?_, ?_⟩
  · have := h 1 _ rfl
    rwa [← add_add, add_pos (by decide), block_add] at this
  · have := h 2 _ rfl
    rwa [← add_add, add_pos (by decide), block_add] at this
  · have := h 3 _ rfl
    rwa [← add_add, add_pos (by decide), block_add] at this
theorem PartsAt.grew {w w' : World} {A : Option Addr} {l : List PV} (h : PartsAt w A l) (hg : Grew w w') : PartsAt w' A l := ⟨fun v hv => (h.1 v hv).grew hg, fun hl => by
  obtain ⟨ad, h1, h2, h3⟩ := h.2 hl
  exact ⟨ad, h1, Nat.lt_of_lt_of_le h2 hg.below.size, fun i x hi j u hu => (hg.below.cell (by rw [block_add]; exact h2)).trans (h3 i x hi j u hu)⟩⟩
/-- A method, and where its slices lie. -/
structure MV where
  sel : ByteArray
  lits : List Mt.Lit
  A1 : Option Addr
  c1 : Nat
  vs : List PV
  A2 : Option Addr
  c2 : Nat
def MV.m (v : MV) : Mt.Meth := ⟨v.sel, v.lits, v.vs.map (·.p)⟩
def mvCells (v : MV) : Array Value := #[.string v.sel, .slice v.A1 v.lits.length v.c1, .slice v.A2 v.vs.length v.c2]
structure MethAt (w : World) (v : MV) : Prop where
  sel : v.sel.size ≤ 2000
  lits : LitsAt w v.A1 v.lits
  l1 : v.lits.length ≤ 100
  parts : PartsAt w v.A2 v.vs
  l2 : v.vs.length ≤ 100
theorem MethAt.grew {w w' : World} {v : MV} (h : MethAt w v) (hg : Grew w w') : MethAt w' v := ⟨h.sel, h.lits.grew hg, h.l1, h.parts.grew hg, h.l2⟩

set_option maxRecDepth 100000 in
set_option maxHeartbeats 2000000 in
theorem idxLit_c (g : Nat) (lb : Array Value) (eg : ∀ args w, (callFunc g args).run Tryz.prog w = .ok (.enter g args) w) (p : Mt.Lit → Bool) (A : Option Addr) (c : Nat) (l : List Mt.Lit) (w : World) (h : LitsAt w A l) (hl : l.length ≤ 1000000)
    (hp : ∀ x ∈ l, ∀ W, Grew w W → Calls Tryz.prog g (#[.agg #[.int .u8 ((x.k : Nat) : Int), .string x.s]] ++ lb) W fun e w' => e = .returned (.bool (p x)) ∧ Grew W w') :
    Calls Tryz.prog 129 #[.slice A l.length c, .func (.func g) #[] lb] w fun e w' => (∃ r : Int, e = .returned (.int .i64 r) ∧ (0 ≤ r ↔ l.any p = true)) ∧ Grew w w' := by
  obtain ⟨n, en⟩ : ∃ n, n = l.length := ⟨_, rfl⟩
  have HA := hid h
  have HP := hid hp
  rw [← en] at hl ⊢
  have EN := hid en
  clear h hp en
  go_enter Tryz.func129, Tryz.ntmps129
  go_wp2_with fail
  go_loopw [5, 8] (fun _ s8 wr => ∃ i : Nat, s8 = .int .i64 ((i : Nat) : Int) ∧ i ≤ n ∧ Grew w wr ∧ Hid ((l.take i).any p = false)) (fun _ s8 _ => n - (intOf s8).toNat)
  case atStart => exact ⟨0, rfl, Nat.zero_le _, Grew.refl _, hid (by simp)⟩
  case round =>
    obtain ⟨i, rfl, hi, hg, HI⟩ := hrel
    have HG := hid hg
    clear hg
    by_cases hlt : i < n
    · have f1 : (i : Int) < n := by omega
      obtain ⟨ad, rfl, hb, hc⟩ := HA.out.2 (by rw [← EN.out]; omega)
      obtain ⟨x, hx⟩ : ∃ x, l[i]? = some x := ⟨_, List.getElem?_eq_getElem (show i < l.length by rw [← EN.out]; exact hlt)⟩
      obtain ⟨q0, q1⟩ := lit_cell (x := x) (i := i) (ad := ad) (w := wr) (fun j u hu => by
        rw [HG.out.below.cell (by rw [block_add]; exact hb)]; exact hc i x hx j u hu)
      have HT : Hid ((l.take (i + 1)).any p = p x) := hid (by
        rw [List.take_add_one, hx, List.any_append, HI.out]
        simp)
      have HX : Hid (p x = true → l.any p = true) := hid (fun hf => List.any_eq_true.2 ⟨x, List.mem_of_getElem? hx, hf⟩)
      have hcall := HP.out x (List.mem_of_getElem? hx) wr HG.out
      generalize p x = b at hcall HT HX
      clear hc hx
      obtain ⟨k, s⟩ := x
      simp only at q0 q1 hcall
      cases b
      · go_wp2_with (go_at_fn g; refine hcall.mono ?_; rintro e w2 ⟨rfl, hg2⟩)
        go_round
        case rel => exact ⟨i + 1, by go_num, by omega, HG.out.trans hg2, HT⟩
        case measure => simp [intOf]; omega
      · go_wp2_with (go_at_fn g; refine hcall.mono ?_; rintro e w2 ⟨rfl, hg2⟩)
        go_ret
        exact ⟨⟨_, rfl, by rw [HX.out (by trivial)]; simp⟩, HG.out.trans hg2⟩
    · have hin : i = n := by omega
      subst hin
      go_wp2_with fail
      go_ret
      refine ⟨⟨_, rfl, ?_⟩, HG.out⟩
      have := HI.out
      rw [EN.out, List.take_length] at this
      rw [this]
      simp
theorem anyLit_c (g : Nat) (lb : Array Value) (eg : ∀ args w, (callFunc g args).run Tryz.prog w = .ok (.enter g args) w) (p : Mt.Lit → Bool) (A : Option Addr) (c : Nat) (l : List Mt.Lit) (w : World) (h : LitsAt w A l) (hl : l.length ≤ 1000000)
    (hp : ∀ x ∈ l, ∀ W, Grew w W → Calls Tryz.prog g (#[.agg #[.int .u8 ((x.k : Nat) : Int), .string x.s]] ++ lb) W fun e w' => e = .returned (.bool (p x)) ∧ Grew W w') :
    Calls Tryz.prog 102 #[.slice A l.length c, .func (.func g) #[] lb] w fun e w' => e = .returned (.bool (l.any p)) ∧ Grew w w' := by
  have HI := hid (idxLit_c g lb eg p A c l w h hl hp)
  clear h hp hl eg
  generalize l.any p = b at *
  generalize l.length = n at *
  go_enter Tryz.func102, Tryz.ntmps102
  go_wp2_with fail
  refine HI.out.mono ?_
  rintro e w1 ⟨⟨r, rfl, hr⟩, hg⟩
  have HD := hid (show decide ((0 : Int) ≤ r) = b by rw [Bool.eq_iff_iff, decide_eq_true_iff]; exact hr)
  clear hr
  go_wp2_with fail
  go_ret
  exact ⟨congrArg (fun z => Ending.returned (.bool z)) HD.out, hg⟩
set_option maxRecDepth 100000 in
set_option maxHeartbeats 2000000 in
theorem idxOp_c (g : Nat) (lb : Array Value) (eg : ∀ args w, (callFunc g args).run Tryz.prog w = .ok (.enter g args) w) (p : Op7.Ins → Bool) (A : Option Addr) (c : Nat) (l : List Op7.Ins) (w : World) (h : OpsAt w w.heap.size A l) (hl : l.length ≤ 1000000)
    (hp : ∀ x ∈ l, ∀ W, Grew w W → Calls Tryz.prog g (#[.agg (opCells x)] ++ lb) W fun e w' => e = .returned (.bool (p x)) ∧ Grew W w') :
    Calls Tryz.prog 135 #[.slice A l.length c, .func (.func g) #[] lb] w fun e w' => (∃ r : Int, e = .returned (.int .i64 r) ∧ (0 ≤ r ↔ l.any p = true)) ∧ Grew w w' := by
  obtain ⟨n, en⟩ : ∃ n, n = l.length := ⟨_, rfl⟩
  have HA := hid h
  have HP := hid hp
  rw [← en] at hl ⊢
  have EN := hid en
  clear h hp en
  go_enter Tryz.func135, Tryz.ntmps135
  go_wp2_with fail
  go_loopw [5, 8] (fun _ s8 wr => ∃ i : Nat, s8 = .int .i64 ((i : Nat) : Int) ∧ i ≤ n ∧ Grew w wr ∧ Hid ((l.take i).any p = false)) (fun _ s8 _ => n - (intOf s8).toNat)
  case atStart => exact ⟨0, rfl, Nat.zero_le _, Grew.refl _, hid (by simp)⟩
  case round =>
    obtain ⟨i, rfl, hi, hg, HI⟩ := hrel
    have HG := hid hg
    clear hg
    by_cases hlt : i < n
    · have f1 : (i : Int) < n := by omega
      obtain ⟨ad, rfl, hb, hc⟩ := HA.out.2 (by rw [← EN.out]; omega)
      obtain ⟨x, hx⟩ : ∃ x, l[i]? = some x := ⟨_, List.getElem?_eq_getElem (show i < l.length by rw [← EN.out]; exact hlt)⟩
      obtain ⟨q0, q1, q2⟩ := op_cell (o := x) (i := i) (ad := ad) (w := wr) (fun j u hu => by
        rw [HG.out.below.cell (by rw [block_add]; exact hb)]; exact hc i x hx j u hu)
      have HT : Hid ((l.take (i + 1)).any p = p x) := hid (by
        rw [List.take_add_one, hx, List.any_append, HI.out]
        simp)
      have HX : Hid (p x = true → l.any p = true) := hid (fun hf => List.any_eq_true.2 ⟨x, List.mem_of_getElem? hx, hf⟩)
      have hcall := HP.out x (List.mem_of_getElem? hx) wr HG.out
      generalize p x = b at hcall HT HX
      clear hc hx
      obtain ⟨cd, oa, ob⟩ := x
      unfold opCells at hcall
      simp only at q0 q1 q2 hcall
      cases b
      · go_wp2_with (go_at_fn g; refine hcall.mono ?_; rintro e w2 ⟨rfl, hg2⟩)
        go_round
        case rel => exact ⟨i + 1, by go_num, by omega, HG.out.trans hg2, HT⟩
        case measure => simp [intOf]; omega
      · go_wp2_with (go_at_fn g; refine hcall.mono ?_; rintro e w2 ⟨rfl, hg2⟩)
        go_ret
        exact ⟨⟨_, rfl, by rw [HX.out (by trivial)]; simp⟩, HG.out.trans hg2⟩
    · have hin : i = n := by omega
      subst hin
      go_wp2_with fail
      go_ret
      refine ⟨⟨_, rfl, ?_⟩, HG.out⟩
      have := HI.out
      rw [EN.out, List.take_length] at this
      rw [this]
      simp
theorem anyOp_c (g : Nat) (lb : Array Value) (eg : ∀ args w, (callFunc g args).run Tryz.prog w = .ok (.enter g args) w) (p : Op7.Ins → Bool) (A : Option Addr) (c : Nat) (l : List Op7.Ins) (w : World) (h : OpsAt w w.heap.size A l) (hl : l.length ≤ 1000000)
    (hp : ∀ x ∈ l, ∀ W, Grew w W → Calls Tryz.prog g (#[.agg (opCells x)] ++ lb) W fun e w' => e = .returned (.bool (p x)) ∧ Grew W w') :
    Calls Tryz.prog 109 #[.slice A l.length c, .func (.func g) #[] lb] w fun e w' => e = .returned (.bool (l.any p)) ∧ Grew w w' := by
  have HI := hid (idxOp_c g lb eg p A c l w h hl hp)
  clear h hp hl eg
  generalize l.any p = b at *
  generalize l.length = n at *
  go_enter Tryz.func109, Tryz.ntmps109
  go_wp2_with fail
  refine HI.out.mono ?_
  rintro e w1 ⟨⟨r, rfl, hr⟩, hg⟩
  have HD := hid (show decide ((0 : Int) ≤ r) = b by rw [Bool.eq_iff_iff, decide_eq_true_iff]; exact hr)
  clear hr
  go_wp2_with fail
  go_ret
  exact ⟨congrArg (fun z => Ending.returned (.bool z)) HD.out, hg⟩
end Go.Proofs.YtjladeiecokpfaaGreatDoor

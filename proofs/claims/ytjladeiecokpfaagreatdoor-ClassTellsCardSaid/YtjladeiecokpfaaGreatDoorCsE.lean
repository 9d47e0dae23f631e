/- Stage 10: Of, Owner, Find. -/
import Derived.Test.YtjladeiecokpfaaGreatDoorCsD
import Derived.Test.YtjladeiecokpfaaGreatDoorZMtJ
namespace Go.Proofs.YtjladeiecokpfaaGreatDoor
open Go.RowKit

theorem str_beq10 (s t : ByteArray) : (s.toList == t.toList) = decide (s = t) := by
  rw [Bool.eq_iff_iff, beq_iff_eq, decide_eq_true_iff]
  constructor
  · intro h
    rw [ByteArray.toList_eq, ByteArray.toList_eq] at h
    cases s; cases t
    exact congrArg ByteArray.mk (Array.toList_inj.1 h)
  · rintro rfl; rfl
set_option maxRecDepth 100000 in
set_option maxHeartbeats 1000000 in
theorem of1_c (v : CV) (s : ByteArray) (gs : Nat) (w : World) (hs : Blk w gs 9 #[.string s]) :
    Calls Tryz.prog 39 (#[.agg (cvCells v)] ++ #[.pointer (some ⟨gs, 0, none⟩)]) w fun e w' => e = .returned (.bool (decide (v.c.name = s))) ∧ Grew w w' := by
  have hg := (Grew.refl w).alloc (.cells (cvCells v) 60)
  have q0 := (hs.grew hg).cell 0
  have hl := (hs.grew hg).lt
  simp only [List.getElem?_toArray, List.getElem?_cons_zero] at q0
  have HG := hid hg
  have hz := str_beq10 v.c.name s
  generalize decide (v.c.name = s) = b at *
  clear hs hg
  obtain ⟨⟨cn, cs, cv, cm⟩, A1, c1, A2, c2⟩ := v
  unfold cvCells at HG q0 hl ⊢
  simp only at HG q0 hl hz ⊢
  generalize cv.length = nv at *
  generalize cm.length = nm at *
  show Calls Tryz.prog 39 #[.agg #[.string cn, .int .i64 cs, .slice A1 nv c1, .slice A2 nm c2], .pointer (some ⟨gs, 0, none⟩)] w _
  go_enter Tryz.func39, Tryz.ntmps39
  go_wp2_with fail
  go_ret
  exact ⟨rfl, HG.out⟩
set_option maxRecDepth 100000 in
set_option maxHeartbeats 1000000 in
theorem of_c (A : Option Addr) (cap : Nat) (l : List CV) (s : ByteArray) (w : World) (h : ClsAt w A l) :
    Calls Tryz.prog 14 #[.slice A l.length cap, .string s] w (FindPost w (Cs.of (cls l) s)) := by
  have hg := (Grew.refl w).alloc (.cells #[.string s] 9)
  have hb := Blk.new w 9 #[.string s]
  have HN := hid (cnumber_c 39 #[.pointer (some ⟨w.heap.size, 0, none⟩)] (enters_of Tryz.func39 (by kernel_rfl) rfl) (fun v => decide (v.c.name = s)) A cap l _ (h.arg.grew hg) (by have := h.len; omega) (fun x _ W hW => of1_c x s _ W (hb.grew hW)))
  have HE := hid (show Cs.of (cls l) s = l.findIdx? fun v => decide (v.c.name = s) by
    unfold Cs.of cls
    rw [List.findIdx?_map]
    rfl)
  have HG := hid hg
  rw [HE.out]
  clear h hb hg HE
  generalize (l.findIdx? fun v => decide (v.c.name = s)) = r at *
  generalize l.length = n at *
  go_enter Tryz.func14, Tryz.ntmps14
  go_wp2_with fail
  refine HN.out.mono ?_
  rintro e w1 ⟨rfl, hg1⟩
  have HG1 := hid (HG.out.trans hg1)
  clear hg1
  go_wp2_with fail
  go_ret2
  exact ⟨rfl, HG1.out⟩
set_option maxRecDepth 100000 in
set_option maxHeartbeats 1000000 in
theorem owner1_c (v : CV) (x : Int) (gs : Nat) (w : World) (hs : Blk w gs 3 #[.int .i64 x]) (hv : IntsAt w w.heap.size v.A2 v.c.ms) (hl : v.c.ms.length ≤ 1000000) :
    Calls Tryz.prog 40 (#[.agg (cvCells v)] ++ #[.pointer (some ⟨gs, 0, none⟩)]) w fun e w' => e = .returned (.bool (v.c.ms.contains x)) ∧ Grew w w' := by
  have hg := (Grew.refl w).alloc (.cells (cvCells v) 60)
  have q0 := (hs.grew hg).cell 0
  have hl2 := (hs.grew hg).lt
  simp only [List.getElem?_toArray, List.getElem?_cons_zero] at q0
  have HG := hid hg
  have HC := hid (hasInt_c x v.A2 v.c2 v.c.ms _ (hv.grew hg) hl)
  have HE := hid (show v.c.ms.contains x = v.c.ms.any fun y => decide (y = x) by
    rw [Bool.eq_iff_iff, List.any_eq_true]
    simp)
  rw [HE.out]
  clear hs hg hv hl HE
  obtain ⟨⟨cn, cs, cv, cm⟩, A1, c1, A2, c2⟩ := v
  unfold cvCells at HG q0 hl2 HC ⊢
  simp only at HG q0 hl2 HC ⊢
  generalize (cm.any fun y => decide (y = x)) = b at *
  generalize cv.length = nv at *
  generalize cm.length = nm at *
  show Calls Tryz.prog 40 #[.agg #[.string cn, .int .i64 cs, .slice A1 nv c1, .slice A2 nm c2], .pointer (some ⟨gs, 0, none⟩)] w _
  go_enter Tryz.func40, Tryz.ntmps40
  go_wp2_with fail
  refine HC.out.mono ?_
  rintro e w1 ⟨rfl, rfl⟩
  go_wp2_with fail
  go_ret
  exact ⟨rfl, HG.out⟩
set_option maxRecDepth 100000 in
set_option maxHeartbeats 1000000 in
theorem owner_c (A : Option Addr) (cap : Nat) (l : List CV) (x : Int) (w : World) (h : ClsAt w A l) :
    Calls Tryz.prog 16 #[.slice A l.length cap, .int .i64 x] w (FindPost w (Cs.owner (cls l) x)) := by
  have hg := (Grew.refl w).alloc (.cells #[.int .i64 x] 3)
  have hb := Blk.new w 3 #[.int .i64 x]
  have HN := hid (cnumber_c 40 #[.pointer (some ⟨w.heap.size, 0, none⟩)] (enters_of Tryz.func40 (by kernel_rfl) rfl) (fun v => v.c.ms.contains x) A cap l _ (h.arg.grew hg) (by have := h.len; omega) (fun y hy W hW => owner1_c y x _ W (hb.grew hW) (((h.arg.ok y hy).grew hg).grew hW).ms (by have := h.fit.ms _ (h.mem hy); omega)))
  have HE := hid (show Cs.owner (cls l) x = l.findIdx? fun v => v.c.ms.contains x by
    unfold Cs.owner cls
    rw [List.findIdx?_map]
    rfl)
  have HG := hid hg
  rw [HE.out]
  clear h hb hg HE
  generalize (l.findIdx? fun v => v.c.ms.contains x) = r at *
  generalize l.length = n at *
  go_enter Tryz.func16, Tryz.ntmps16
  go_wp2_with fail
  refine HN.out.mono ?_
  rintro e w1 ⟨rfl, hg1⟩
  have HG1 := hid (HG.out.trans hg1)
  clear hg1
  go_wp2_with fail
  go_ret2
  exact ⟨rfl, HG1.out⟩
/-- Methods that lie one behind the other. -/
structure MethsAt (w : World) (A : Option Addr) (l : List MV) : Prop where
  ok : ∀ u ∈ l, MethAt w u
  len : l.length ≤ 100
  cells : 0 < l.length → ∃ ad, A = some ad ∧ ad.block < w.heap.size ∧ ∀ i u, l[i]? = some u → ∀ j x, (mvCells u)[j]? = some x → w.cell? (ad.add (i * 3 + j)) = some x
theorem MethsAt.grew {w w' : World} {A : Option Addr} {l : List MV} (h : MethsAt w A l) (hg : Grew w w') : MethsAt w' A l := ⟨fun v hv => (h.ok v hv).grew hg, h.len, fun hl => by
  obtain ⟨ad, h1, h2, h3⟩ := h.cells hl
  exact ⟨ad, h1, Nat.lt_of_lt_of_le h2 hg.below.size, fun i x hi j u hu => (hg.below.cell (by rw [block_add]; exact h2)).trans (h3 i x hi j u hu)⟩⟩
theorem meth_at {w wr : World} {A : Option Addr} {l : List MV} (h : MethsAt w A l) (hg : Grew w wr) {i : Nat} (hi : i < l.length) : ∃ ad u, A = some ad ∧ l[i]? = some u ∧ wr.cell? (ad.add (i * 3)) = some (.string u.sel) ∧ wr.cell? ⟨ad.block, (ad.add (i * 3)).off + 1, none⟩ = some (.slice u.A1 u.lits.length u.c1) ∧ wr.cell? ⟨ad.block, (ad.add (i * 3)).off + 2, none⟩ = some (.slice u.A2 u.vs.length u.c2) ∧ ad.block < wr.heap.size ∧ MethAt wr u := by
  obtain ⟨ad, e, hb, hc⟩ := h.cells (by omega)
  have hv := List.getElem?_eq_getElem hi
  have hq : ∀ j u, (mvCells l[i])[j]? = some u → wr.cell? (ad.add (i * 3 + j)) = some u := fun j u hu => by
    rw [hg.below.cell (by rw [block_add]; exact hb)]; exact hc i _ hv j u hu
  have hp : ∀ {a : Addr} {j : Nat}, j ≠ 0 → a.add j = ⟨a.block, a.off + j, none⟩ := fun hj => by simp [Addr.add, hj]
  refine ⟨ad, l[i], e, hv, hq 0 _ rfl, ?_, ?_, Nat.lt_of_lt_of_le hb hg.below.size, (h.ok _ (List.getElem_mem hi)).grew hg⟩
  · have := hq 1 _ rfl
    rwa [← add_add, hp (by decide), block_add] at this
  · have := hq 2 _ rfl
    rwa [← add_add, hp (by decide), block_add] at this
def sels (l : List MV) : List ByteArray := l.map (·.sel)
theorem sels_len (l : List MV) : (sels l).length = l.length := by simp [sels]
theorem sels_at {l : List MV} {i : Nat} {u : MV} (h : l[i]? = some u) : (sels l)[i]? = some u.sel := by simp [sels, h]
/-- Has method i the selector s? -/
def hasSel (ss : List ByteArray) (s : ByteArray) (i : Int) : Bool := decide (0 ≤ i ∧ ss[i.toNat]? = some s)
set_option maxRecDepth 100000 in
set_option maxHeartbeats 2000000 in
theorem find1_c (i : Int) (A : Option Addr) (n c : Nat) (l : List MV) (s : ByteArray) (gm gs : Nat) (w : World) (hm : Blk w gm 30 #[.slice A n c]) (hs : Blk w gs 9 #[.string s]) (h : MethsAt w A l) (hn : n = l.length) :
    Calls Tryz.prog 33 (#[.int .i64 i] ++ #[.pointer (some ⟨gm, 0, none⟩), .pointer (some ⟨gs, 0, none⟩)]) w fun e w' => e = .returned (.bool (hasSel (sels l) s i)) ∧ Grew w w' := by
  have q0 := hm.cell 0
  have p0 := hs.cell 0
  have l0 := hm.lt
  have l1 := hs.lt
  simp only [List.getElem?_toArray, List.getElem?_cons_zero] at q0 p0
  have hn1 : n ≤ 100 := by rw [hn]; exact h.len
  have HI := hid (isIdxM_c i A n c (by omega))
  show Calls Tryz.prog 33 #[.int .i64 i, .pointer (some ⟨gm, 0, none⟩), .pointer (some ⟨gs, 0, none⟩)] w _
  cases hb : isIdx i n with
  | false =>
    have HR := hid (show hasSel (sels l) s i = false by
      unfold hasSel
      rw [decide_eq_false]
      rintro ⟨h1, h2⟩
      have := (List.getElem?_eq_some_iff.1 h2).1
      rw [sels_len, ← hn] at this
      rcases isIdx_no.1 hb with h3 | h3 <;> omega)
    rw [HR.out]
    rw [hb] at HI
    clear hb HR h hn hm hs
    go_enter Tryz.func33, Tryz.ntmps33
    go_wp2_with fail
    refine wp_region_grew_from (Grew.refl _) (by kernel_rfl) (by kernel_rfl) ?_
    repeat (go_big_quiet_step ((go_at_call 34; exact Calls.grew_same (After.grew _) (HI.out _))))
    refine wpQuiet_nil ?_
    rintro _ ⟨y1, rfl⟩
    have HY := hid y1.grew
    go_wp2_with fail
    go_ret
    exact ⟨rfl, HY.out⟩
  | true =>
    obtain ⟨h1, h2⟩ := isIdx_iff.1 hb
    obtain ⟨k, rfl⟩ : ∃ k : Nat, i = k := ⟨i.toNat, by omega⟩
    obtain ⟨ad, u, rfl, hu, r0, -, -, hlt, -⟩ := meth_at h (Grew.refl w) (i := k) (by omega)
    have hz := str_beq10 u.sel s
    have HR := hid (show hasSel (sels l) s k = decide (u.sel = s) by
      unfold hasSel
      rw [Int.toNat_natCast, sels_at hu]
      simp)
    rw [HR.out]
    rw [hb] at HI
    have hk : k < n := by omega
    have hki : (k : Int) < (n : Int) := by omega
    clear hb HR h hn hm hs hu
    generalize decide (u.sel = s) = b at *
    generalize u.sel = us at *
    go_enter Tryz.func33, Tryz.ntmps33
    go_wp2_with fail
    refine wp_region_grew_from (Grew.refl _) (by kernel_rfl) (by kernel_rfl) ?_
    repeat (go_big_quiet_step ((go_at_call 34; exact Calls.grew_same (After.grew _) (HI.out _))))
    refine wpQuiet_nil ?_
    rintro _ ⟨y1, rfl⟩
    have HY := hid y1.grew
    go_wp2_with fail
    go_ret
    exact ⟨rfl, HY.out⟩
end Go.Proofs.YtjladeiecokpfaaGreatDoor

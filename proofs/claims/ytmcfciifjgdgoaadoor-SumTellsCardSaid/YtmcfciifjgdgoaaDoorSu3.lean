/- Package sum: Seal. -/
import Derived.Test.YtmcfciifjgdgoaaDoorSu2
import Derived.Laws.MakeOwn
namespace Go.Proofs.YtmcfciifjgdgoaaDoor
open Go.RowKit

theorem v_u8 : (Tryd.prog.info? 5).map (fun i => (i.zero, i.size, i.bytes)) = some (some (.int .u8 0), 1, 1) := by kernel_rfl
/-- 'make([]byte, 0, n)'. -/
theorem make_room {P : Program} {t e : TypeId} (ht : P.underlying t = some (.slice e)) (he : (P.info? e).map (fun i => (i.zero, i.size, i.bytes)) = some (some (.int .u8 0), 1, 1))
    (n : Nat) (hn : n ≤ 281474976710656) {w0 W : World} (hg : Grew w0 W) : ∃ w', (Instr.makeSlice t (.int .i64 0) (.int .i64 n)).run P W = .ok (.slice (some ⟨W.heap.size, 0, none⟩) 0 n) w' ∧ OwnNums .u8 w0 w' e (some ⟨W.heap.size, 0, none⟩) n [] ∧ Grew w0 w' := by
  obtain ⟨i, hi, hz0, hz1, hz2⟩ := info_parts he
  have hr := run_make (P := P) W t e i (.int .u8 0) ht hi hz0 .i64 .i64 0 n (Int.le_refl _) (by omega) (by rw [hz2]; omega) (by omega)
  simp only [Int.toNat_zero, Int.toNat_natCast] at hr
  refine ⟨_, hr, ?_, hg.alloc _⟩
  have := World.ownsRow_made (base := w0.heap.size) (e := e) (size := 1) W (madeCells (Value.int IntKind.u8 0).cells (n * i.size)) n hg.below.size (by simp only [maxLen]; omega) (by rw [size_madeCells, hz1])
  exact this

/-- A piece: where it lies, its capacity, its bytes. -/
abbrev Piece := Option Addr × Nat × List Nat
def pieceVal (p : Piece) : Value := .slice p.1 p.2.2.length p.2.1
def pieceAt (ps : List Piece) (j : Nat) : Option Addr × Nat := ((ps.getD j (none, 0, [])).1, (ps.getD j (none, 0, [])).2.1)
theorem pcAt_list {W : World} {H : Nat} {t : TypeId} (ps : List Piece) (hb : Blk W H t (ps.map pieceVal).toArray) (hn : ∀ p ∈ ps, NumsAt .u8 W W.heap.size p.1 p.2.2 ∧ ∀ x ∈ p.2.2, x < 256) : PcAt W.heap.size (some ⟨H, 0, none⟩) (pieceAt ps) (ps.map (·.2.2)) W := by
  intro j hj
  have hj' : j < ps.length := by simpa using hj
  have e1 : ps.getD j (none, 0, []) = ps[j] := by simp [List.getD_eq_getElem?_getD, hj']
  have e2 : (ps.map (·.2.2)).getD j [] = ps[j].2.2 := by simp [List.getD_eq_getElem?_getD, hj']
  obtain ⟨h1, h2⟩ := hn ps[j] (List.getElem_mem hj')
  refine ⟨_, rfl, hb.lt, ?_, fun i hi => ?_⟩
  · rw [show (⟨H, 0, none⟩ : Addr).add j = ⟨H, j, none⟩ by simp [Addr.add]; omega, hb.cell]
    unfold pieceAt
    rw [e1, e2]
    simp [hj', pieceVal]
  · rw [e2] at hi ⊢
    obtain ⟨ad, a1, a2, a3⟩ := h1 (by omega)
    refine ⟨ad, ps[j].2.2.getD i 0, ?_, a2, ?_, rfl, a3 i hi⟩
    · unfold pieceAt
      rw [e1]
      exact a1
    · have : ps[j].2.2.getD i 0 ∈ ps[j].2.2 := by simp [List.getD_eq_getElem?_getD, hi]
      exact h2 _ this
/-- The checksum of pieces that stand in a list of their own. -/
theorem of_list (ps : List Piece) (H c : Nat) (t : TypeId) (W : World) (hb : Blk W H t (ps.map pieceVal).toArray) (hn : ∀ p ∈ ps, NumsAt .u8 W W.heap.size p.1 p.2.2 ∧ (∀ x ∈ p.2.2, x < 256) ∧ p.2.2.length ≤ 100000) (hl : ps.length ≤ 100000) :
    Calls Tryd.prog 22 #[.slice (some ⟨H, 0, none⟩) ps.length c] W fun e w' => e = .returned (.int .u32 ((Su.sum (ps.map (·.2.2)).flatten : Nat) : Int)) ∧ Grew W w' := by
  have h := of_c (some ⟨H, 0, none⟩) c (pieceAt ps) (ps.map (·.2.2)) W (pcAt_list ps hb fun p hp => ⟨(hn p hp).1, (hn p hp).2.1⟩) (by simpa using hl) (fun j => by
    rcases Nat.lt_or_ge j ps.length with hj | hj
    · have e2 : (ps.map (·.2.2)).getD j [] = ps[j].2.2 := by simp [List.getD_eq_getElem?_getD, hj]
      rw [e2]
      exact (hn ps[j] (List.getElem_mem hj)).2.2
    · simp [List.getD_eq_getElem?_getD, hj]) (fun x hx => by
    obtain ⟨l, h1, h2⟩ := List.mem_flatten.1 hx
    obtain ⟨p, h3, rfl⟩ := List.mem_map.1 h1
    exact (hn p h3).2.1 x h2)
  rwa [List.length_map] at h
/-- .. of one piece. -/
theorem of_one (A : Option Addr) (n c : Nat) (xs : List Nat) (H : Nat) (t : TypeId) (W : World) (hn : xs.length = n) (hb : Blk W H t #[.slice A n c]) (ha : NumsAt .u8 W W.heap.size A xs) (hx : ∀ x ∈ xs, x < 256) (hl : xs.length ≤ 100000) :
    Calls Tryd.prog 22 #[.slice (some ⟨H, 0, none⟩) 1 1] W fun e w' => e = .returned (.int .u32 ((Su.sum xs : Nat) : Int)) ∧ Grew W w' := by
  subst hn
  have h := of_list [(A, c, xs)] H 1 t W hb (fun p hp => by obtain rfl := List.mem_singleton.1 hp; exact ⟨ha, hx, hl⟩) (by simp)
  simp only [List.map_cons, List.map_nil, List.flatten_cons, List.flatten_nil, List.append_nil] at h
  exact h

theorem four_at {W : World} {cs : Array Value} {e : TypeId} {L : List Nat} (h : cs = (numCells .u8 L).toArray) : NumsAt .u8 (W.alloc (.cells cs e)) (W.alloc (.cells cs e)).heap.size (some ⟨W.heap.size, 0, none⟩) L := by
  have hb := Blk.new W e cs
  rw [h] at hb ⊢
  exact NumsAt.of_blk hb
theorem tail_cells {s : Nat} (hs : s < 4294967296) : #[Value.int IntKind.u8 (((s : Nat) : Int) / 16777216), Value.int IntKind.u8 (((s : Nat) : Int) / 65536 % 256), Value.int IntKind.u8 (((s : Nat) : Int) / 256 % 256), Value.int IntKind.u8 (((s : Nat) : Int) % 256)] = (numCells .u8 (Su.tail s)).toArray := by
  have e : ((s : Nat) : Int) / 16777216 = ((s / 16777216 % 256 : Nat) : Int) := by omega
  rw [e]
  rfl

set_option maxRecDepth 100000 in
set_option maxHeartbeats 2000000 in
theorem seal_c (A : Option Addr) (c : Nat) (xs : List Nat) (w : World) (ha : NumsAt .u8 w w.heap.size A xs) (hx : ∀ x ∈ xs, x < 256) (hl : xs.length ≤ 100000) :
    Calls Tryd.prog 24 #[.slice A xs.length c] w fun e w' => ∃ A' c' M, e = .returned (.slice A' (List.length M) c') ∧ M = Su.seald xs ∧ OwnNums .u8 w w' 5 A' c' M ∧ Grew w w' := by
  have HA := hid ha
  have HX := hid hx
  clear ha hx
  obtain ⟨n, en⟩ : ∃ n, n = xs.length := ⟨_, rfl⟩
  have EN := hid en
  rw [← en] at hl ⊢
  clear en
  go_enter Tryd.func24, Tryd.ntmps24
  go_wp2_with fail
  refine (of_one A n c xs w.heap.size 43 _ EN.out.symm (Blk.new w _ _) (HA.out.grew ((Grew.refl w).alloc _)) HX.out (by rw [← EN.out]; exact hl)).mono ?_
  rintro e w1 ⟨rfl, hg1⟩
  have HG1 := hid (((Grew.refl w).alloc (.cells #[.slice A n c] 43)).trans hg1)
  clear hg1
  obtain ⟨s, es⟩ : ∃ s, s = Su.sum xs := ⟨_, rfl⟩
  have hs := Su.sum_lt xs
  rw [← es] at hs ⊢
  have ES := hid es
  clear es
  obtain ⟨W1, hmk, hO1, hG1⟩ := make_room Tryd.underlying43 v_u8 (n + 4) (by omega) (w0 := w) HG1.out
  have hM : (((n + 4 : Nat) : Nat) : Int) = (n : Int) + 4 := by omega
  rw [hM] at hmk
  clear hM
  have hA1 := HA.out.grew hG1
  have HT := hid (tail_cells hs)
  go_wp2_with (first
    | (at_builtin; refine wpList_catM .u8 1 w _ rfl _ _ 43 5 rfl Tryd.underlying43 v_u8 (hG2.alloc _) A1 c1 M rfl (hO2.alloc _) (some ⟨W2.heap.size, 0, none⟩) 4 (Su.tail s) rfl (four_at HT.out) (by have := EN.out; rw [HM.out]; simp [Su.tail]; omega) (by have := EN.out; rw [HM.out]; simp [Su.tail]; omega) ?_; rintro A3 c3 M3 W3 HM3 hO3 hG3)
    | (at_builtin; refine wpList_catM .u8 1 w W1 rfl _ _ 43 5 rfl Tryd.underlying43 v_u8 hG1 _ _ [] rfl hO1 A c xs (by rw [← EN.out]; rfl) hA1 (by have := EN.out; simp; omega) (by have := EN.out; simp; omega) ?_; rintro A1 c1 M W2 HM hO2 hG2))
  go_ret
  exact ⟨A3, c3, M3, rfl, by rw [HM3.out, HM.out, ES.out]; rfl, hO3, hG3⟩
end Go.Proofs.YtmcfciifjgdgoaaDoor

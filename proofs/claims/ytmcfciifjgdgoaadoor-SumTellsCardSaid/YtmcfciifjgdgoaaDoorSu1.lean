/- Package sum: the bytes of pieces, one piece after the other. -/
import Derived.RangeFuncNested
import Derived.RangeFuncBound
import Derived.RangeFuncCalls
import Derived.RangeFuncLeaves
import Derived.Shelf.Abstract
import Derived.Shelf.RegionOpen
import Derived.WalkKit
import Derived.OwnWalkIn
import Derived.TacticsInMore
import Derived.LoopNIn
import Derived.LoopIn
import Derived.Test.YtmcfciifjgdgoaaDoorOwn2
import Derived.Test.YtmcfciifjgdgoaaDoorSuP
import Derived.Test.YtmcfciifjgdgoaaDoorDig
import Derived.Test.YtmcfciifjgdgoaaDoorProg
namespace Go.Proofs.YtmcfciifjgdgoaaDoor
open Go.RowKit Go.Shelf
attribute [local go_sem] Oper.semAt_some

theorem flat_at {Ls : List (List Nat)} {k : Nat} (h : k < Ls.length) : Ls.flatten = (Ls.take k).flatten ++ (Ls.getD k [] ++ (Ls.drop (k + 1)).flatten) := by
  conv => lhs; rw [← List.take_append_drop k Ls, List.flatten_append]
  rw [List.drop_eq_getElem_cons h, List.flatten_cons]
  simp [List.getD_eq_getElem?_getD, h]
theorem flat_succ {Ls : List (List Nat)} {k : Nat} (h : k < Ls.length) : (Ls.take (k + 1)).flatten = (Ls.take k).flatten ++ Ls.getD k [] := by
  rw [List.take_add_one, List.flatten_append]
  simp [List.getD_eq_getElem?_getD, h]
theorem flat_more {Ls : List (List Nat)} {k i : Nat} (h : k < Ls.length) (hi : i < (Ls.getD k []).length) : ((Ls.take k).flatten ++ (Ls.getD k []).take i).length < Ls.flatten.length := by
  rw [flat_at h]
  simp only [List.length_append, List.length_take]
  omega

def byteOf (v : Nat) : Nat := v % 256
theorem byteOf_lt (v : Nat) : byteOf v < 256 := Nat.mod_lt _ (by decide)
theorem byteOf_eq {v : Nat} (h : v < 256) : byteOf v = v := Nat.mod_eq_of_lt h
/-- What a round is handed: the byte. -/
def byEnc (x : Nat) : Array Value := #[.int .u8 ((byteOf x : Nat) : Int)]
/-- Pieces, and the bytes of each, somewhere below 'K'; 'V' has where each piece lies, and its capacity. -/
def PcAt (K : Nat) (A : Option Addr) (V : Nat → Option Addr × Nat) (Ls : List (List Nat)) (W : World) : Prop :=
  ∀ j, j < Ls.length → ∃ ad, A = some ad ∧ ad.block < K ∧ W.cell? (ad.add j) = some (.slice (V j).1 (Ls.getD j []).length (V j).2) ∧
    ∀ i, i < (Ls.getD j []).length → ∃ bd v, (V j).1 = some bd ∧ bd.block < K ∧ v < 256 ∧ (Ls.getD j []).getD i 0 = v ∧ W.cell? (bd.add i) = some (.int .u8 ((v : Nat) : Int))
theorem PcAt.kept {K : Nat} {A : Option Addr} {V : Nat → Option Addr × Nat} {Ls : List (List Nat)} {W W' : World} (h : PcAt K A V Ls W) (hc : ∀ p v, p.block < K → W.cell? p = some v → W'.cell? p = some v) : PcAt K A V Ls W' := by
  intro j hj
  obtain ⟨ad, e1, e2, e3, e4⟩ := h j hj
  refine ⟨ad, e1, e2, hc _ _ (by rw [block_add]; exact e2) e3, fun i hi => ?_⟩
  obtain ⟨bd, v, f1, f2, f3, f4, f5⟩ := e4 i hi
  exact ⟨bd, v, f1, f2, f3, f4, hc _ _ (by rw [block_add]; exact f2) f5⟩
/-- What the iterator reads: its box, the pieces, and their bytes. -/
def PcRd (Bs K : Nat) (A : Option Addr) (c : Nat) (V : Nat → Option Addr × Nat) (Ls : List (List Nat)) (W : World) : Prop := W.cell? ⟨Bs, 0, none⟩ = some (.slice A Ls.length c) ∧ PcAt K A V Ls W
def PcEnd (Ls : List (List Nat)) (J Jx : List Nat → World → Prop) (e : Ending) (W' : World) : Prop :=
  (∃ v, e = .returned v) ∧ ((∃ ys, ys = Ls.flatten ∧ J ys W') ∨ (∃ pre, True ∧ Jx pre W'))

set_option maxRecDepth 100000 in
set_option maxHeartbeats 2000000 in
theorem all1_in (F : Fence) (m : Nat) (hF : F.fn 69) (hro : F.round = none) (hm : 1 ≤ m) (l Bs K c : Nat) (A : Option Addr) (V : Nat → Option Addr × Nat) (Ls : List (List Nat)) (hn : Ls.length ≤ 100000) (hl : ∀ j, (Ls.getD j []).length ≤ 100000) (J Jx : List Nat → World → Prop)
    (hY : ∀ pre x W, J pre W → pre.length < Ls.flatten.length → YieldAt F (m - 1) Tryd.prog l (byEnc x) W fun e W' =>
      (e = .returned (.bool true) ∧ J (pre ++ [x]) W' ∧ (PcRd Bs K A c V Ls W → PcRd Bs K A c V Ls W')) ∨ (e = .returned (.bool false) ∧ Jx (pre ++ [x]) W'))
    (W : World) (hR : PcRd Bs K A c V Ls W) (h0 : J [] W) :
    CallsIn F m Tryd.prog 69 #[.func (.yield l) #[] #[], .pointer (some ⟨Bs, 0, none⟩)] W (PcEnd Ls J Jx) := by
  have HY := hid hY
  have HR := hid hR
  have hbx := hR.1
  have HL := hid hl
  obtain ⟨n, en⟩ : ∃ n, n = Ls.length := ⟨_, rfl⟩
  rw [← en] at hbx hn
  have EN := hid en
  clear hY hR hl en
  refine callsIn_of_wp Tryd.func69 rfl hF ?_ hro
  simp only [Tryd.ntmps69, List.size_toArray, List.length_cons, List.length_nil, Nat.reduceAdd, Nat.reduceSub, Array.replicate_succ, Array.replicate_zero, List.push_toArray, List.append_toArray, List.nil_append, List.cons_append]
  gi_wp2
  gi_loopw [9] (fun i wr => ∃ (k : Nat) (pre : List Nat), i = .int .i64 ((k : Nat) : Int) ∧ k ≤ n ∧ J pre wr ∧ Hid (PcRd Bs K A c V Ls wr) ∧ Hid (pre = (Ls.take k).flatten))
    (fun i _ => n - (intOf i).toNat)
  case atStart => exact ⟨0, [], rfl, Nat.zero_le _, h0, HR, hid rfl⟩
  case round =>
    clear HR h0 hbx
    obtain ⟨k, pre, rfl, hk, hJs, HRd, HP⟩ := hrel
    by_cases h0 : k < n
    · have h0' : (k : Int) < (n : Int) := by omega
      obtain ⟨ad, rfl, had, hca, hbs⟩ := HRd.out.2 k (by have := EN.out; omega)
      obtain ⟨q, eq⟩ : ∃ q, q = (Ls.getD k []).length := ⟨_, rfl⟩
      rw [← eq] at hca
      have hq : q ≤ 100000 := by rw [eq]; exact HL.out k
      have EQ := hid eq
      clear eq hbs
      obtain ⟨B, eB⟩ : ∃ B, B = (V k).1 := ⟨_, rfl⟩
      rw [← eB] at hca
      have EB := hid eB
      clear eB
      gi_wp2
      gi_loopw [15] (fun i wr => ∃ (s : Nat) (pre : List Nat), i = .int .i64 ((s : Nat) : Int) ∧ s ≤ q ∧ J pre wr ∧ Hid (PcRd Bs K (some ad) c V Ls wr) ∧ Hid (pre = (Ls.take k).flatten ++ (Ls.getD k []).take s))
        (fun i _ => q - (intOf i).toNat)
      case atStart => exact ⟨0, pre, rfl, Nat.zero_le _, hJs, HRd, hid (by rw [HP.out]; simp)⟩
      case round =>
        clear hJs HRd HP hca
        obtain ⟨s, pre, rfl, hs, hJs, HRd, HP⟩ := hrel
        by_cases h1 : s < q
        · have h1' : (s : Int) < (q : Int) := by omega
          obtain ⟨ad2, e1, _, _, e4⟩ := HRd.out.2 k (by have := EN.out; omega)
          obtain ⟨bd, v, f1, f2, f3, f4, f5⟩ := e4 s (by have := EQ.out; omega)
          obtain rfl : B = some bd := EB.out.trans f1
          obtain ⟨fn, tmps, assign, body, hy, hRr⟩ := HY.out pre v wr hJs (by rw [HP.out]; exact flat_more (by have := EN.out; omega) (by have := EQ.out; omega))
          unfold byEnc at hy
          rw [byteOf_eq f3] at hy
          have HP2 := hid (show pre ++ [v] = (Ls.take k).flatten ++ (Ls.getD k []).take (s + 1) by
            rw [HP.out, List.append_assoc, Dg.take_succ (by have := EQ.out; omega), f4])
          clear e1 e4 f1 f2 f4 h0 h1 HP
          gi_wp2
          refine hRr.mono ?_
          rintro e W3 (⟨rfl, hJ3, hk3⟩ | ⟨rfl, hJx3⟩)
          · have HK := hid (hk3 HRd.out)
            clear hk3
            gi_wp2
            go_roundw
            case rel => exact ⟨s + 1, _, by simp, by omega, hJ3, HK, HP2⟩
            case measure => simp [intOf]; omega
          · clear hy hRr
            gi_wp2
            refine bodyPost_ret (results_none rfl _ _ _) rfl ?_
            exact ⟨⟨_, rfl⟩, .inr ⟨_, trivial, hJx3⟩⟩
        · obtain rfl : s = q := by omega
          have HP2 := hid (show pre = (Ls.take (k + 1)).flatten by
            rw [HP.out, flat_succ (k := k) (by have := EN.out; omega), List.take_of_length_le (l := Ls.getD k []) (by have := EQ.out; omega)])
          clear h1 hs HP
          gi_wp2
          go_roundw
          case rel => exact ⟨k + 1, _, by simp, by omega, hJs, HRd, HP2⟩
          case measure => simp [intOf]; omega
    · obtain rfl : k = n := by omega
      have HE := hid (show pre = Ls.flatten by rw [HP.out, EN.out, List.take_length])
      clear h0 hk HP
      gi_wp2
      go_end0
      exact ⟨⟨_, rfl⟩, .inl ⟨pre, HE.out, hJs⟩⟩
end Go.Proofs.YtmcfciifjgdgoaaDoor

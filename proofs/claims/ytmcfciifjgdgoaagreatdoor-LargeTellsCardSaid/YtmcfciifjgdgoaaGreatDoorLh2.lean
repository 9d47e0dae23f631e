/- Law 03's own helpers, part 2: a number given on. -/
import Derived.Test.YtmcfciifjgdgoaaGreatDoorLh1
import Derived.Deep.RegionLaw
namespace Go.Proofs.YtmcfciifjgdgoaaGreatDoor
open Go.RowKit
theorem OwnNums.made0 (k : IntKind) (w0 w : World) (e : TypeId) (hg : Grew w0 w) : OwnNums k w0 (w.alloc (.cells #[] e)) e (some ⟨w.heap.size, 0, none⟩) 0 [] :=
  ⟨by simp [numCells], .inr ⟨w.heap.size, 0, #[], rfl, hg.below.size, by simp only [World.alloc, Array.getElem?_push_size], by simp [numCells, maxLen]⟩⟩
theorem step_cat {P : Program} {ops : Array Oper} {o : Oper} {a : Act} {w : World} {K : Act → World → Prop} {Q : Exit → Act → World → Prop} {E : Prop} (k : IntKind) (b : Nat) (w0 : World) (hgd : o.guard = none) (s x : Operand) (t e : TypeId)
    (ho : o.op = .call { callee := .builtin .append, args := #[s, x], argTypes := #[t, t] })
    (ht : P.underlying t = some (.slice e)) (he : (P.info? e).map (fun i => (i.zero, i.size, i.bytes)) = some (some (.int k 0), 1, b))
    (hg : Grew w0 w) (A : Option Addr) (c : Nat) (hs : a.eval s = .slice A 0 c) (hown : OwnNums k w0 w e A c []) (A2 : Option Addr) (c2 : Nat) (xs : List Nat) (hxv : a.eval x = .slice A2 xs.length c2) (hx : NumsAt k w w.heap.size A2 xs)
    (hlen : xs.length ≤ 9223372036854775807) (hby : xs.length * b ≤ 140737488355328)
    (h : ∀ A' c' w', OwnNums k w0 w' e A' c' xs → Grew w0 w' → K (a.put o.dst (.slice A' xs.length c')) w') :
    if Region.wanted o (yielded ops a.tmps) = true then Oper.wp P o a w K Q else E := by
  have hw : Region.wanted o (yielded ops a.tmps) = true := by simp [Region.wanted, hgd]
  rw [if_pos hw]
  obtain ⟨A', c', w', hrun, h1, h2⟩ := run_cat (P := P) k t o.type e b ht he w0 w hg A c [] hown A2 c2 xs hx (by simpa using hlen) (by simpa using hby)
  rw [List.length_nil, Nat.zero_add] at hrun
  unfold Oper.wp
  simp only [execOp, ho, resolve, invoke, builtin, Sem.run_bind, Sem.run_pure, Result.andThen_ok, List.map_toArray, List.map_cons, List.map_nil, hs, hxv, hrun]
  exact h A' c' w' h1 h2

set_option maxHeartbeats 4000000 in
/-- A number given on: its words lie in memory of their own. -/
theorem giveNum_c (neg : Bool) (A : Option Addr) (c : Nat) (xs : List Nat) (w : World) (h : NumsAt .u32 w w.heap.size A xs) (hn : xs.length ≤ 35184372088832) :
    Calls Tryz.prog 6 #[.agg #[.bool neg, .slice A xs.length c]] w fun e w' => ∃ A' c', e = .returned (.agg #[.bool neg, .slice A' xs.length c']) ∧ OwnNums .u32 w w' 55 A' c' xs ∧ Grew w w' := by
  have H := hid h
  clear h
  go_enter Tryz.func6, Tryz.ntmps6
  go_wp2_with fail
  obtain ⟨wb, hw1⟩ : ∃ wb, wb = (w.alloc (.cells #[.bool neg, .slice A xs.length c] 24)).alloc (.cells #[.bool false, .slice none 0 0] 27) := ⟨_, rfl⟩
  have hG : Grew w wb := by rw [hw1]; exact ((Grew.refl _).alloc _).alloc _
  have l1 : w.heap.size + 1 < wb.heap.size := by rw [hw1]; simp only [World.size_alloc]; omega
  have l0 : w.heap.size < wb.heap.size := by omega
  have a0 : wb.cell? ⟨w.heap.size, 0, none⟩ = some (.bool neg) := by rw [hw1, World.cell?_alloc_lt _ _ _ (by simp only [World.size_alloc]; omega)]; simp
  have a1 : wb.cell? ⟨w.heap.size, 1, none⟩ = some (.slice A xs.length c) := by rw [hw1, World.cell?_alloc_lt _ _ _ (by simp only [World.size_alloc]; omega)]; simp
  have b0 : wb.cell? ⟨w.heap.size + 1, 0, none⟩ = some (.bool false) := by rw [hw1]; simp
  have b1 : wb.cell? ⟨w.heap.size + 1, 1, none⟩ = some (.slice none 0 0) := by rw [hw1]; simp
  have fr : ∀ i, wb.frozen? ⟨w.heap.size + 1, i, none⟩ = false := fun i => by rw [hw1]; simp
  rw [← hw1]
  clear hw1
  have HG := hid hG
  have H2 := hid (H.out.grew hG)
  clear hG H
  go_region_law (refine step_cat .u32 4 wb rfl _ _ 22 55 rfl Tryz.underlying22 Tryz.info_u32 (by first | exact (Grew.refl _).alloc _ | exact (Grew.refl _).drew.alloc _) _ 0 rfl (by first | exact OwnNums.made0 .u32 wb wb 55 (Grew.refl _) | exact OwnNums.made0 .u32 wb _ 55 (Grew.refl _).drew) A c xs rfl (H2.out.grew (by first | exact (Grew.refl _).alloc _ | exact (Grew.refl _).drew.alloc _)) (by omega) (by omega) ?_; rintro A' c' W1 hO hGr; obtain ⟨y, rfl⟩ := hGr)
  all_goals
    have HF := hid (show ∀ g, A' = some ⟨g, 0, none⟩ → g ≠ w.heap.size + 1 from fun g hA => by
      have h1 := (World.ownsRow.lt hO) g (by rw [hA]; rfl)
      omega)
    have HO := hid (hO.mono HG.out)
    clear hO
    go_wp2_with fail
    refine bodyPost_ret (v := .agg #[.bool neg, .slice A' xs.length c']) (by simp [results, Tryz.results6, go_sem, *]) rfl ?_
    exact ⟨A', c', rfl, (HO.out.far (fun g hA => HF.out g hA) _).far (fun g hA => HF.out g hA) _, ((HG.out.trans y.grew).setCell (by simp <;> omega) _).setCell (by simp <;> omega) _⟩
end Go.Proofs.YtmcfciifjgdgoaaGreatDoor

/- Stage 7: the program's own get. -/
import Derived.Test.YtilikjfjbnabfaaGreatDoorOp10
import Derived.StillTailTactics
namespace Go.Proofs.YtilikjfjbnabfaaGreatDoor
open Go.RowKit

theorem number_n (A : Option Addr) (c n m : Nat) (xs : List Nat) (w : World) (hn : xs.length = n) (hm : Op7.un xs = m) (hl : n ≤ 2) (hb : ∀ x ∈ xs, x < 256) (h : NumsAt .u8 w w.heap.size A xs) :
    Calls Tryz.prog 68 #[.slice A n c] w (fun e w' => e = .returned (.int .i64 ((m : Nat) : Int)) ∧ w' = w) := by
  subst hn hm
  exact number_c A c xs w hl hb h
theorem res_op {fn : Func} {a : Tmp} (hr : fn.results = #[ResultVar.cell a 51]) (tmps : Array Value) (g : Nat) (ha : tmps.getD a undef = .pointer (some ⟨g, 0, none⟩)) (w : World) (c0 c1 c2 : Value) (hb : Blk w g 51 #[c0, c1, c2]) :
    (results fn tmps).run Tryz.prog w = .ok (.agg #[c0, c1, c2]) w := by
  have y0 := hb.cell 0
  have y1 := hb.cell 1
  have y2 := hb.cell 2
  simp only [List.getElem?_toArray, List.getElem?_cons_zero, List.getElem?_cons_succ] at y0 y1 y2
  have ha' : tmps[a]?.getD undef = .pointer (some ⟨g, 0, none⟩) := by simpa using ha
  simp [results, go_sem, *]
theorem add_row (ad : Addr) (x : Nat) : some (⟨ad.block, ad.off + 1 + x, none⟩ : Addr) = some ((⟨ad.block, ad.off + 1, none⟩ : Addr).add x) := by
  unfold Addr.add
  split
  · rename_i h; subst h; rfl
  · rfl
theorem NumsAt.tail {k : IntKind} {w : World} {B : Nat} {ad : Addr} {c : Nat} {r : List Nat} (h : NumsAt k w B (some ad) (c :: r)) : NumsAt k w B (some ⟨ad.block, ad.off + 1, none⟩) r := by
  intro hn
  obtain ⟨ad', e, hlt, hc⟩ := h (by simp)
  obtain rfl := Option.some.inj e
  refine ⟨_, rfl, hlt, fun j hj => ?_⟩
  have := hc (j + 1) (by simpa using hj)
  rw [show ad.add (j + 1) = (⟨ad.block, ad.off + 1, none⟩ : Addr).add j by rw [Nat.add_comm, ← add_add]; simp [Addr.add]] at this
  simpa using this
theorem NumsAt.dropA {k : IntKind} {w : World} {B : Nat} {ad : Addr} {xs : List Nat} (h : NumsAt k w B (some ad) xs) (n : Nat) : NumsAt k w B (some (ad.add n)) (xs.drop n) := by
  intro hn
  rw [List.length_drop] at hn
  obtain ⟨ad', e, hlt, hc⟩ := h (by omega)
  obtain rfl := Option.some.inj e
  refine ⟨_, rfl, by rw [block_add]; exact hlt, fun j hj => ?_⟩
  rw [List.length_drop] at hj
  rw [add_add, hc (n + j) (by omega)]
  simp [List.getD_eq_getElem?_getD]
set_option maxRecDepth 100000 in
set_option maxHeartbeats 2000000 in
theorem get_c (ad : Addr) (k c : Nat) (r : List Nat) (w : World) (h21 : c < 21) (hT : TabAt w) (hl : 1 + r.length = Op7.size c) (hk : 1 + r.length ≤ k) (hk2 : k ≤ 9223372036854775807) (hb : ∀ x ∈ r, x < 256) (h : NumsAt .u8 w w.heap.size (some ad) (c :: r)) :
    Calls Tryz.prog 60 #[.slice (some ad) (1 + r.length) k] w (fun e w' => e = .returned (.agg #[.int .u8 ((c : Nat) : Int), .int .i64 ((Op7.un (r.take (Op7.wid c).1) : Nat) : Int), .int .i64 ((Op7.un (r.drop (Op7.wid c).1) : Nat) : Int)]) ∧ Grew w w') := by
  obtain ⟨ad', e, hlt, hc⟩ := h (by simp)
  obtain rfl := Option.some.inj e
  have c0 := hc 0 (by simp)
  rw [add_zero] at c0
  change _ = some (Value.int .u8 ((c : Nat) : Int)) at c0
  have hl2 : r.length = (Op7.wid c).1 + (Op7.wid c).2 := by unfold Op7.size at hl; omega
  have hw2 := Op7.wid_le c
  have HT := hid hT
  have HW := hid (fun w' (hg : Grew w w') => owidths_c c w' h21 (HT.out.grew hg))
  clear hT hl hc e
  generalize (Op7.wid c).1 = x at *
  generalize (Op7.wid c).2 = y at *
  obtain ⟨mx, hmx⟩ : ∃ m, m = Op7.un (r.take x) := ⟨_, rfl⟩
  obtain ⟨my, hmy⟩ : ∃ m, m = Op7.un (r.drop x) := ⟨_, rfl⟩
  have HX : Hid (∀ (k' : Nat) (w' : World) (A : Option Addr), Grew w w' → (x = 0 ∨ A = some ⟨ad.block, ad.off + 1, none⟩) → Calls Tryz.prog 68 #[.slice A x k'] w' (fun e w2 => e = .returned (.int .i64 ((mx : Nat) : Int)) ∧ w2 = w')) := hid (fun k' w' A hg hA => by
    refine number_n A k' x mx (r.take x) w' (by rw [List.length_take]; omega) hmx.symm hw2.1 (fun z hz => hb z (List.mem_of_mem_take hz)) ?_
    rcases hA with rfl | rfl
    · exact NumsAt.nil _ _ _ _
    · exact (h.tail.take x).grew hg)
  have HY : Hid (∀ (k' : Nat) (w' : World) (A : Option Addr), Grew w w' → (y = 0 ∨ A = some ((⟨ad.block, ad.off + 1, none⟩ : Addr).add x)) → Calls Tryz.prog 68 #[.slice A y k'] w' (fun e w2 => e = .returned (.int .i64 ((my : Nat) : Int)) ∧ w2 = w')) := hid (fun k' w' A hg hA => by
    refine number_n A k' y my (r.drop x) w' (by rw [List.length_drop]; omega) hmy.symm hw2.2 (fun z hz => hb z (List.mem_of_mem_drop hz)) ?_
    rcases hA with h0 | rfl
    · have : r.drop x = [] := List.drop_eq_nil_of_le (by omega)
      rw [this]
      exact NumsAt.nil _ _ _ _
    · exact (h.tail.dropA x).grew hg)
  rw [← hmx, ← hmy]
  obtain ⟨n, hn⟩ : ∃ n, n = r.length := ⟨_, rfl⟩
  rw [← hn] at hl2 hk ⊢
  clear hn h hb hmx hmy
  subst hl2
  have hcase : (k = 1 ∧ x = 0 ∧ y = 0) ∨ (k = x + 1 ∧ 0 < x ∧ y = 0) ∨ (¬ k = 1 ∧ ¬ k - 1 = x ∧ x ≤ k - 1 ∧ (x : Int) ≤ (x : Int) + (y : Int)) := by omega
  rcases hcase with ⟨rfl, rfl, rfl⟩ | ⟨rfl, hx0, rfl⟩ | ⟨hk1, hx1, hx2, hx3⟩
  all_goals
    go_enter Tryz.func60, Tryz.ntmps60
    go_wp2_with fail
    have HB0 := hid (Blk.of_alloc w #[.int .u8 0, .int .i64 0, .int .i64 0] 51)
    go_quiet (fail)
    go_wp2_with fail
    refine (HW.out _ (((Grew.refl w).alloc _).drewN _)).mono ?_
    rintro e w2 ⟨rfl, y2, rfl⟩
    have HG2 := hid ((((Grew.refl w).alloc (.cells #[.int .u8 0, .int .i64 0, .int .i64 0] 51)).drewN nq).trans y2.grew.drew)
    have HB2 := hid (HB0.out.grew (((Grew.refl _).drewN nq).trans y2.grew.drew))
    go_wp2_with fail
    refine wp_region_still_tail 10 (by kernel_rfl) (by kernel_rfl) ?_
    simp only [List.take_succ_cons, List.take_zero, List.drop_succ_cons, List.drop_zero]
    change wpStill Tryz.prog _ y2.w.drew (fun a' => wpList Tryz.prog _ _ _ a' y2.w.drew) _ _
    generalize y2.w.drew = w3 at HG2 HB2 ⊢
    repeat still_step
    still_call (HX.out _ w3 _ HG2.out (by first | exact .inl trivial | exact .inr rfl))
    repeat still_step
    still_call (HY.out _ w3 _ HG2.out (by first | exact .inl trivial | exact .inr (add_row _ _)))
    repeat still_step
    refine wpStill_nil ?_
    have q0 := HB2.out.cell 0
    have q1 := HB2.out.cell 1
    have q2 := HB2.out.cell 2
    have f0 := HB2.out.frozen 0
    have f1 := HB2.out.frozen 1
    have f2 := HB2.out.frozen 2
    simp only [List.getElem?_toArray, List.getElem?_cons_zero, List.getElem?_cons_succ] at q0 q1 q2
    go_wp2_with fail
    have HB3 := ((HB2.out.put 0 (.int .u8 ((c : Nat) : Int))).put 1 (.int .i64 ((mx : Nat) : Int))).put 2 (.int .i64 ((my : Nat) : Int))
    exact bodyPost_ret (v := .agg #[.int .u8 ((c : Nat) : Int), .int .i64 ((mx : Nat) : Int), .int .i64 ((my : Nat) : Int)]) (res_op Tryz.results60 _ w.heap.size rfl _ _ _ _ (by simpa using HB3)) rfl ⟨rfl, ((HG2.out.setCell (Nat.le_refl _) _).setCell (Nat.le_refl _) _).setCell (Nat.le_refl _) _⟩
end Go.Proofs.YtilikjfjbnabfaaGreatDoor

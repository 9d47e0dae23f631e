/- Stage 8: sets in a row, and the program's own behind. -/
import Derived.Test.YtilikjfjbnabfaaGreatDoorFl8
import Derived.Test.YtilikjfjbnabfaaGreatDoorFl5
namespace Go.Proofs.YtilikjfjbnabfaaGreatDoor
open Go.RowKit

/-- The cells of sets, one behind the other. -/
def setsCells (S : List (List Nat)) : List Value := S.flatMap (numCells .u64)
theorem setsCells_len {S : List (List Nat)} (h : ∀ s ∈ S, s.length = 9) : (setsCells S).length = S.length * 9 := by
  induction S with
  | nil => rfl
  | cons s S ih =>
    have e : setsCells (s :: S) = numCells .u64 s ++ setsCells S := by simp [setsCells]
    rw [e, List.length_append, numCells_length, h s (by simp), ih (fun t ht => h t (by simp [ht])), List.length_cons]
    omega
theorem setsCells_at {S : List (List Nat)} (h : ∀ s ∈ S, s.length = 9) (k : Nat) (hk : k < S.length) (j : Nat) (hj : j < 9) : (setsCells S)[k * 9 + j]? = (numCells .u64 (S.getD k Fl.full))[j]? := by
  induction S generalizing k with
  | nil => simp at hk
  | cons s S ih =>
    have e : setsCells (s :: S) = numCells .u64 s ++ setsCells S := by simp [setsCells]
    have e9 : (numCells .u64 s).length = 9 := by rw [numCells_length]; exact h s (by simp)
    rw [e]
    cases k with
    | zero =>
      rw [Nat.zero_mul, Nat.zero_add, List.getElem?_append_left (by omega)]
      rfl
    | succ k =>
      rw [List.getElem?_append_right (by omega), e9, show (k + 1) * 9 + j - 9 = k * 9 + j by omega, ih (fun t ht => h t (by simp [ht])) k (by simpa using hk)]
      rfl
/-- Sets in a row. -/
structure SetsAt (w : World) (B g n : Nat) (S : List (List Nat)) : Prop where
  row : Row w B 66 9 (some ⟨g, 0, none⟩) n n (setsCells S)
  oks : Fl.Oks n S
theorem SetsAt.grew {w w' : World} {B g n : Nat} {S : List (List Nat)} (h : SetsAt w B g n S) (hg : Grew w w') : SetsAt w' B g n S := ⟨h.row.grew hg, h.oks⟩
theorem SetsAt.low {w : World} {B B' g n : Nat} {S : List (List Nat)} (h : SetsAt w B g n S) (hB : B' ≤ B) : SetsAt w B' g n S := ⟨h.row.low hB, h.oks⟩
theorem SetsAt.lt {w : World} {B g n : Nat} {S : List (List Nat)} (h : SetsAt w B g n S) : B ≤ g ∧ g < w.heap.size := Row.lt' h.row
theorem SetsAt.range {w : World} {B g n : Nat} {S : List (List Nat)} (h : SetsAt w B g n S) (k : Nat) (hk : k < n) : w.rangeAt g (k * 9) (numCells .u64 (S.getD k Fl.full)) := by
  intro j v hv
  have hj : j < 9 := by
    have := (List.getElem?_eq_some_iff.1 hv).1
    rw [numCells_length, (h.oks.at k).1] at this
    exact this
  rcases Row.cases h.row with ⟨_, _, _, ⟨h1, _⟩ | ⟨g', h1, _, _, hc, _⟩⟩
  · cases h1
  · obtain ⟨rfl⟩ := h1
    refine hc _ _ ?_
    rw [setsCells_at (fun s hs => (h.oks.2 s hs).1) k (by rw [h.oks.1]; exact hk) j hj]
    exact hv
theorem SetsAt.there {w : World} {B g n : Nat} {S : List (List Nat)} (h : SetsAt w B g n S) (k : Nat) (hk : k < n) : w.there g (k * 9) 9 := by
  intro j hj
  have hv : (numCells .u64 (S.getD k Fl.full))[j]? = some _ := List.getElem?_eq_getElem (by rw [numCells_length, (h.oks.at k).1]; exact hj)
  rw [h.range k hk j _ hv]
  refine ⟨rfl, ?_⟩
  rcases Row.cases h.row with ⟨_, _, _, ⟨h1, _⟩ | ⟨g', h1, _, _, _, hf⟩⟩
  · cases h1
  · obtain ⟨rfl⟩ := h1
    exact hf _
/-- A whole set out of the middle of a block. -/
theorem wpList_loadM {ops : Array Oper} {rest : List Oper} {o : Oper} {a : Act} {w : World} {Q : Exit → Act → World → Prop} (x : Operand) (ho : o.op = .load 66 x) (hgd : o.guard = none) (g f : Nat) (s : List Nat) (hx : a.eval x = .pointer (some ⟨g, f, none⟩)) (hl : s.length = 9) (h : w.rangeAt g f (numCells .u64 s))
    (hk : wpList Tryz.prog ops Q rest (a.put o.dst (setVal s)) w) : wpList Tryz.prog ops Q (o :: rest) a w :=
  wpList_load_mid hgd 66 x ho g f hx _ _ h set_under rfl (by rw [numCells_length, hl]; exact set_size) hk
theorem wpStill_loadM {ops : Array Oper} {rest : List Oper} {o : Oper} {a : Act} {w : World} {Q : Act → Prop} (x : Operand) (ho : o.op = .load 66 x) (hgd : o.guard = none) (g f : Nat) (s : List Nat) (hx : a.eval x = .pointer (some ⟨g, f, none⟩)) (hl : s.length = 9) (h : w.rangeAt g f (numCells .u64 s))
    (hk : wpStill Tryz.prog ops w Q rest (a.put o.dst (setVal s))) : wpStill Tryz.prog ops w Q (o :: rest) a := by
  refine wpStill_step fun K hK => ?_
  have hw : Region.wanted o (yielded ops a.tmps) = true := by simp [Region.wanted, hgd]
  rw [if_pos hw]
  unfold Oper.still execOp
  simp only [ho, hx, Instr.loadAt, Instr.sureAddr, Sem.run_bind, Sem.run_pure, Result.andThen_ok, run_loadVar_mid (P := Tryz.prog) w g f 66 _ _ h set_under rfl (by rw [numCells_length, hl]; exact set_size)]
  exact ⟨rfl, hK _ hk⟩
theorem Blk.setRow_far {w : World} {g : Nat} {t : TypeId} {cs : Array Value} (h : Blk w g t cs) {k : Nat} (hk : k ≠ g) (ds : Array Value) : Blk (w.setRow k ds) g t cs := by
  unfold Blk at h ⊢
  simp only [World.setRow, Array.getElem?_modify, if_neg hk]
  exact h
/-- A whole set into the block that was made last. -/
theorem wpList_storeN {ops : Array Oper} {rest : List Oper} {o : Oper} {a : Act} {w : World} {Q : Exit → Act → World → Prop} (x y : Operand) (ho : o.op = .store 66 x y) (hgd : o.guard = none) (t : List Nat) (hx : a.eval x = .pointer (some ⟨w.heap.size, 0, none⟩)) (hy : a.eval y = setVal t) (ht : t.length = 9)
    (hk : wpList Tryz.prog ops Q rest (a.put o.dst undef) (w.alloc (.cells (setCs t) 66))) : wpList Tryz.prog ops Q (o :: rest) a (w.alloc (.cells zeroCs 66)) := by
  refine wpList_storeS x y ho hgd w.heap.size Fl.zero t hx hy rfl ht (by rw [zeroCs_eq]; exact Blk.new w _ _) ?_
  rwa [World.setRow_alloc_new]
theorem range_blk {w : World} {g : Nat} {s : List Nat} (h : Blk w g 66 (setCs s)) : w.rangeAt g 0 (numCells .u64 s) := by
  intro j v hv
  rw [Nat.zero_add, h.cell]
  unfold setCs
  rwa [List.getElem?_toArray]
theorem range_drew {w : World} {g f : Nat} {cs : List Value} (h : w.rangeAt g f cs) : w.drew.rangeAt g f cs := h
theorem common_step (S : List (List Nat)) (c : List Nat) {ks : List Nat} {i k : Nat} (h : ks[i]? = some k) : Fl.common S c (ks.drop i) = Fl.common S (Fl.meet c (S.getD k Fl.full)) (ks.drop (i + 1)) := by
  obtain ⟨hi, rfl⟩ := List.getElem?_eq_some_iff.1 h
  rw [List.drop_eq_getElem_cons hi]
  rfl
set_option maxRecDepth 100000 in
set_option maxHeartbeats 2000000 in
theorem behind_c (B g n : Nat) (S : List (List Nat)) (A : Option Addr) (c : Nat) (ks : List Nat) (w : World) (h : SetsAt w B g n S) (hk : NumsAt .i64 w w.heap.size A ks) (hs : ∀ k ∈ ks, k < n) (hl : ks.length ≤ 1000) :
    Calls Tryz.prog 51 #[.slice (some ⟨g, 0, none⟩) n n, .slice A ks.length c] w (fun e w' => e = .returned (setVal (Fl.behind S ks)) ∧ Grew w w') := by
  have H := hid h
  have HK := hid hk
  have HS := hid hs
  obtain ⟨m, em⟩ : ∃ m, m = ks.length := ⟨_, rfl⟩
  have HM := hid em
  rw [← em] at hl ⊢
  clear h hk hs em
  have HA := hid ((Grew.refl w).alloc (.cells (setCs Fl.zero) 66))
  have HZ := hid (Blk.new w 66 (setCs Fl.zero))
  rw [← zeroCs_eq] at HA HZ
  rcases Nat.eq_zero_or_pos m with h0 | h0
  · subst h0
    have HE : Hid (Fl.behind S ks = Fl.zero) := hid (by
      unfold Fl.behind
      rw [if_pos (List.eq_nil_of_length_eq_zero HM.out.symm)])
    go_enter Tryz.func51, Tryz.ntmps51
    go_wp2_with fail
    refine bodyPost_ret (v := setVal (Fl.behind S ks)) ?_ rfl ?_
    · rw [HE.out]
      exact res_set Tryz.results51 _ w.heap.size rfl _ rfl HZ.out
    · exact ⟨rfl, HA.out⟩
  · have hne : (((m : Nat) : Int) == 0) = false := by rw [beq_eq_false_iff_ne]; omega
    have HE : Hid (Fl.behind S ks = Fl.common S Fl.full (ks.drop 0)) := hid (by
      unfold Fl.behind
      rw [if_neg (fun e => by have := HM.out; rw [e] at this; simp at this; omega)]
      rfl)
    obtain ⟨ad, rfl, hadb, hadc⟩ := HK.out (by rw [← HM.out]; exact h0)
    have HC := hid hadc
    obtain ⟨wa, hwa⟩ : ∃ wa, wa = w.alloc (.cells zeroCs 66) := ⟨_, rfl⟩
    have HW := hid hwa
    rw [← hwa] at HA HZ
    have HSz : Hid (wa.heap.size = w.heap.size + 1) := hid (by rw [hwa]; simp)
    clear hwa hadc HK
    go_enter Tryz.func51, Tryz.ntmps51
    go_wp2_with fail
    have HW' := HW.out
    unfold zeroCs at HW'
    rw [← HW']
    clear HW HW'
    refine (Calls.after (Grew.refl _) (all_c _)).mono ?_
    rintro e w1 ⟨rfl, y1, rfl⟩
    have HZ1 := hid (HZ.out.grew y1.grew)
    have HA1 := hid (HA.out.trans y1.grew)
    clear HZ
    go_wp2_with (refine wpList_storeN _ _ rfl rfl Fl.full rfl rfl rfl ?_)
    obtain ⟨g5, hg5⟩ : ∃ g5, g5 = y1.w.heap.size := ⟨_, rfl⟩
    have HB5 : Hid (Blk (y1.w.alloc (.cells (setCs Fl.full) 66)) g5 66 (setCs Fl.full)) := hid (by rw [hg5]; exact Blk.new _ _ _)
    have HZ5 := hid (HZ1.out.grew ((Grew.refl _).alloc (.cells (setCs Fl.full) 66)))
    have HG5 : Hid (w.heap.size < g5) := hid (by rw [hg5]; have := HSz.out; have := y1.grew.below.size; omega)
    have HA5 := hid (HA1.out.alloc (.cells (setCs Fl.full) 66))
    rw [← hg5]
    clear hg5 HZ1 HA1 HSz HA
    go_loopw [15] (fun s15 wr => ∃ (i : Nat) (cs : List Nat), s15 = .int .i64 ((i : Nat) : Int) ∧ i ≤ m ∧ Hid (Fl.Ok cs ∧ Fl.common S Fl.full (ks.drop 0) = Fl.common S cs (ks.drop i) ∧ Blk wr g5 66 (setCs cs) ∧ Blk wr w.heap.size 66 zeroCs) ∧ (∃ y : After w, wr = y.w)) (fun s15 _ => m - (intOf s15).toNat)
    case atStart => exact ⟨0, Fl.full, rfl, Nat.zero_le _, hid ⟨Fl.full_ok, rfl, HB5.out, HZ5.out⟩, HA5.out⟩
    case round =>
      clear HB5 HZ5 HA5
      obtain ⟨i, cs, rfl, hi, HI, y2, rfl⟩ := hrel
      by_cases hlt : i < m
      · have f1 : (i : Int) < m := by omega
        obtain ⟨k, hk⟩ : ∃ k, ks[i]? = some k := ⟨_, List.getElem?_eq_getElem (by rw [← HM.out]; exact hlt)⟩
        have q0 := HC.out i (by rw [← HM.out]; exact hlt)
        rw [show ks.getD i 0 = k by rw [List.getD_eq_getElem?_getD, hk]; rfl] at q0
        have hkn := HS.out k (List.mem_of_getElem? hk)
        have f2 : (k : Int) < n := by omega
        have HST := hid (common_step S cs hk)
        have HOk := hid (H.out.oks.at k)
        have HR := hid ((H.out.grew y2.grew).range k hkn)
        have HL := hid HI.out.1.1
        have HN := hid (Fl.meet_ok HI.out.1 HOk.out)
        have HB := hid HI.out.2.2.1
        clear hk
        go_wp2_with fail
        refine wp_region_still_tail 5 (by kernel_rfl) (by kernel_rfl) ?_
        simp only [List.take_succ_cons, List.take_zero, List.drop_succ_cons, List.drop_zero]
        refine wpStill_loadM _ rfl rfl g5 0 cs rfl HL.out (range_drew (range_blk HB.out)) ?_
        still_step
        still_step
        still_step
        refine wpStill_loadM _ rfl rfl g (k * 9) (S.getD k Fl.full) rfl HOk.out.1 (range_drew HR.out) ?_
        refine wpStill_nil ?_
        change wpList _ _ _ _ _ y2.w.drew
        go_wp2_with fail
        refine (Calls.after (Grew.refl _) (and_c cs (S.getD k Fl.full) y2.w.drew HI.out.1 HOk.out)).mono ?_
        rintro e w3 ⟨rfl, y3, rfl⟩
        have HB3 := hid (HB.out.drew.grew y3.grew)
        have HZ3 := hid (HI.out.2.2.2.drew.grew y3.grew)
        have HG3 := hid (y2.grew.drew.trans y3.grew)
        go_wp2_with (refine wpList_storeS _ _ rfl rfl g5 cs (Fl.meet cs (S.getD k Fl.full)) rfl rfl HL.out HN.out.1 HB3.out ?_)
        go_round
        case rel => exact ⟨i + 1, Fl.meet cs (S.getD k Fl.full), by go_num, by omega, hid ⟨HN.out, by rw [HI.out.2.1, HST.out], HB3.out.setRow _, HZ3.out.setRow_far (by have := HG5.out; omega) _⟩, HG3.out.setRow (by have := HG5.out; omega) _⟩
        case measure => simp [intOf]; omega
      · obtain rfl : i = m := by omega
        have HX : Hid (Fl.behind S ks = cs) := hid (by rw [HE.out, HI.out.2.1, List.drop_of_length_le (by rw [← HM.out]; exact Nat.le_refl _)]; rfl)
        have HB := hid HI.out.2.2.1
        have HZ := hid HI.out.2.2.2
        have HL := hid HI.out.1.1
        have HR := hid (HZ.out.setRow (setCs cs))
        go_wp2_with (first | (refine wpList_loadS _ rfl rfl g5 cs rfl HL.out HB.out ?_) | (refine wpList_storeS _ _ rfl rfl w.heap.size Fl.zero cs rfl rfl rfl HL.out HZ.out ?_))
        refine bodyPost_ret (v := setVal (Fl.behind S ks)) ?_ rfl ?_
        · rw [HX.out]
          exact res_set Tryz.results51 _ w.heap.size rfl _ HL.out HR.out
        · exact ⟨rfl, y2.grew.setRow (Nat.le_refl _) _⟩
end Go.Proofs.YtilikjfjbnabfaaGreatDoor

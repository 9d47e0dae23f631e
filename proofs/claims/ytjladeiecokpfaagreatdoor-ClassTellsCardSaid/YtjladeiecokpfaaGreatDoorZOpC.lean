/- Parts of elder texts that this layer needs, joined: XYOpC XYOpD. -/
import Derived.Test.YtjladeiecokpfaaGreatDoorZOpA
import Derived.Test.YtjladeiecokpfaaGreatDoorZBase
import Derived.Laws.BitsAllLaws
import Derived.Deep.DeepCutAuto
import Derived.Deep.RegionLaw
import Derived.StillTailTactics
import Derived.Test.YtjladeiecokpfaaGreatDoorZNum
import Derived.Laws.MakeOwn
import Derived.Test.YtjladeiecokpfaaGreatDoorZOpM
namespace Go.Proofs.YtjladeiecokpfaaGreatDoor
open Go.RowKit

theorem RowTo.next {w w1 : World} {A A1 A2 : Option Addr} (r : RowTo w A A1) (hs : w.heap.size ≤ w1.heap.size) (q : RowTo w1 A1 A2) : RowTo w A A2 := by
  rcases q with rfl | ⟨g, rfl, hg⟩
  · exact r
  · exact .inr ⟨g, rfl, by omega⟩
end Go.Proofs.YtjladeiecokpfaaGreatDoor
namespace Go.Proofs.YtjladeiecokpfaaGreatDoor
open Go.RowKit

theorem wrap64_of (n : Int) : IntKind.i64.wrap n = wrap64 n := by
  rw [IntKind.wrap_i64]; unfold wrap64; omega
theorem ofInt_i64 (n : Int) : (BitVec.ofInt 64 n).toNat = (n % 18446744073709551616).toNat := by
  simp [BitVec.toNat_ofInt]
theorem i64_or (a b : Int) : bits .or .i64 a b = wrap64 (((a % 18446744073709551616).toNat ||| (b % 18446744073709551616).toNat : Nat) : Int) := by
  show IntKind.i64.wrap ((BitVec.ofInt 64 a ||| BitVec.ofInt 64 b).toNat : Int) = _
  rw [BitVec.toNat_or, ofInt_i64, ofInt_i64, wrap64_of]
theorem or_256 (x y : Nat) (hx : x < 256) (hy : y < 256) : bits .or .i64 ((x : Int) * 256) (y : Int) = ((256 * x + y : Nat) : Int) := by
  rw [i64_or, show (((x : Int) * 256) % 18446744073709551616).toNat = x <<< 8 by rw [Nat.shiftLeft_eq]; omega, show ((y : Int) % 18446744073709551616).toNat = y by omega, ← Nat.shiftLeft_add_eq_or_of_lt (by omega : y < 2 ^ 8), Nat.shiftLeft_eq]
  unfold wrap64
  omega
theorem or_0 (x : Nat) (hx : x < 256) : bits .or .i64 0 (x : Int) = (x : Int) := by
  have := or_256 0 x (by decide) hx
  simpa using this

set_option maxRecDepth 100000 in
set_option maxHeartbeats 2000000 in
theorem number_c (A : Option Addr) (c : Nat) (xs : List Nat) (w : World) (hl : xs.length ≤ 2) (hb : ∀ x ∈ xs, x < 256) (h : NumsAt .u8 w w.heap.size A xs) :
    Calls Tryz.prog 156 #[.slice A xs.length c] w (fun e w' => e = .returned (.int .i64 ((Op7.un xs : Nat) : Int)) ∧ w' = w) := by
  match xs, hl, hb, h with
  | [], _, _, _ =>
    go_enter Tryz.func156, Tryz.ntmps156
    go_wp2_with fail
    refine wp_loop_rounds 3 ?_
    rw [rounds_succ]
    go_wp2_with fail
    go_ret
    exact ⟨rfl, rfl⟩
  | [x], _, hb, h =>
    have hx := hb x (by simp)
    obtain ⟨ad, rfl, hlt, hc⟩ := h (by simp)
    have c0 := hc 0 (by simp)
    rw [add_zero] at c0
    change _ = some (Value.int .u8 ((x : Nat) : Int)) at c0
    have o0 := or_0 x hx
    clear hc h
    rw [show ([x] : List Nat).length = 1 from rfl]
    go_enter Tryz.func156, Tryz.ntmps156
    go_wp2_with fail
    refine wp_loop_rounds 3 ?_
    rw [rounds_succ]
    go_wp2_with fail
    rw [rounds_succ]
    go_wp2_with fail
    go_ret
    exact ⟨rfl, rfl⟩
  | [x, y], _, hb, h =>
    have hx := hb x (by simp)
    have hy := hb y (by simp)
    obtain ⟨ad, rfl, hlt, hc⟩ := h (by simp)
    have c0 := hc 0 (by simp)
    have c1 := hc 1 (by simp)
    rw [add_zero] at c0
    change _ = some (Value.int .u8 ((x : Nat) : Int)) at c0
    change _ = some (Value.int .u8 ((y : Nat) : Int)) at c1
    rw [show ad.add 1 = ⟨ad.block, ad.off + 1, none⟩ by simp [Addr.add]] at c1
    have o0 := or_0 x hx
    have o1 := or_256 x y hx hy
    clear hc h
    rw [show ([x, y] : List Nat).length = 2 from rfl]
    go_enter Tryz.func156, Tryz.ntmps156
    go_wp2_with fail
    refine wp_loop_rounds 3 ?_
    rw [rounds_succ]
    go_wp2_with fail
    rw [rounds_succ]
    go_wp2_with fail
    rw [rounds_succ]
    go_wp2_with fail
    go_ret
    exact ⟨ret_int (by simp [Op7.un]), rfl⟩
end Go.Proofs.YtjladeiecokpfaaGreatDoor
namespace Go.Proofs.YtjladeiecokpfaaGreatDoor
open Go.RowKit

def opCells (o : Op7.Ins) : Array Value := #[.int .u8 ((o.code : Nat) : Int), .int .i64 o.a, .int .i64 o.b]
/-- Instructions that lie one behind the other from address 'A' on. -/
def OpsAt (w : World) (B : Nat) (A : Option Addr) (l : List Op7.Ins) : Prop :=
  (∀ o ∈ l, o.code < 256) ∧ (0 < l.length → ∃ ad, A = some ad ∧ ad.block < B ∧ ∀ i o, l[i]? = some o → ∀ j u, (opCells o)[j]? = some u → w.cell? (ad.add (i * 3 + j)) = some u)
theorem op_cell {w : World} {ad : Addr} {i : Nat} {o : Op7.Ins} (h : ∀ j u, (opCells o)[j]? = some u → w.cell? (ad.add (i * 3 + j)) = some u) :
    w.cell? (ad.add (i * 3)) = some (.int .u8 ((o.code : Nat) : Int)) ∧ w.cell? ⟨ad.block, (ad.add (i * 3)).off + 1, none⟩ = some (.int .i64 o.a) ∧ w.cell? ⟨ad.block, (ad.add (i * 3)).off + 2, none⟩ = some (.int .i64 o.b) := by
  have fa : ∀ {a : Addr} {j : Nat}, j ≠ 0 → a.add j = ⟨a.block, a.off + j, none⟩ := fun hj => by simp [Addr.add, hj]
  refine ⟨h 0 (.int .u8 ((o.code : Nat) : Int)) rfl, ?_, ?_⟩
  · have := h 1 _ rfl
    rwa [← add_add, fa (by decide), block_add] at this
  · have := h 2 _ rfl
    rwa [← add_add, fa (by decide), block_add] at this
theorem form_of (c : Nat) (w : World) (hm : c < 256) :
    Calls Tryz.prog 87 #[.int .u8 (c : Nat)] w (fun e w' => e = .returned (.tuple #[.string (formB c), .bool (decide (c < 21))]) ∧ Grew w w') := by
  have h := form_c c w hm
  have e : (if c < 21 then formB c else ⟨#[]⟩) = formB c := by
    split
    · rfl
    · rename_i hc
      have : Op7.wid c = (0, 0) := by
        unfold Op7.wid
        rw [List.getD_eq_getElem?_getD, List.getElem?_eq_none (by simpa [Op7.widths] using hc)]
        rfl
      rw [formB, this]
      rfl
  rwa [e] at h

end Go.Proofs.YtjladeiecokpfaaGreatDoor
namespace Go.Proofs.YtjladeiecokpfaaGreatDoor
open Go.RowKit

theorem Blk.of_alloc (w : World) (cs : Array Value) (t : TypeId) : Blk (w.alloc (.cells cs t)) w.heap.size t cs := heap_alloc_new w _
theorem RowTo.not_at {w : World} {A A' : Option Addr} {g : Nat} (r : RowTo w A A') (h : ¬ AtRow A g) (hg : g < w.heap.size) : ¬ AtRow A' g := by
  rcases r with rfl | ⟨k, rfl, hk⟩
  · exact h
  · rintro ⟨ad, h1, rfl⟩
    obtain rfl := Option.some.inj h1
    simp only at hg
    omega
end Go.Proofs.YtjladeiecokpfaaGreatDoor
namespace Go.Proofs.YtjladeiecokpfaaGreatDoor
open Go.RowKit

theorem number_n (A : Option Addr) (c n m : Nat) (xs : List Nat) (w : World) (hn : xs.length = n) (hm : Op7.un xs = m) (hl : n ≤ 2) (hb : ∀ x ∈ xs, x < 256) (h : NumsAt .u8 w w.heap.size A xs) :
    Calls Tryz.prog 156 #[.slice A n c] w (fun e w' => e = .returned (.int .i64 ((m : Nat) : Int)) ∧ w' = w) := by
  subst hn hm
  exact number_c A c xs w hl hb h
theorem res_op {fn : Func} {a : Tmp} (hr : fn.results = #[ResultVar.cell a 181]) (tmps : Array Value) (g : Nat) (ha : tmps.getD a undef = .pointer (some ⟨g, 0, none⟩)) (w : World) (c0 c1 c2 : Value) (hb : Blk w g 181 #[c0, c1, c2]) :
    (results fn tmps).run Tryz.prog w = .ok (.agg #[c0, c1, c2]) w := by
  have y0 := hb.cell 0
  have y1 := hb.cell 1
  have y2 := hb.cell 2
  simp only [List.getElem?_toArray, List.getElem?_cons_zero, List.getElem?_cons_succ] at y0 y1 y2
  have ha' : tmps[a]?.getD undef = .pointer (some ⟨g, 0, none⟩) := by simpa using ha
  simp [results, go_sem, *]
theorem add_row (ad : Addr) (x : Nat) : some (⟨ad.block, ad.off + 1 + x, none⟩ : Addr) = some ((⟨ad.block, ad.off + 1, none⟩ : Addr).add x) := by
  unfold Addr.add
  split
  · rename_i h; subst h; rfl
  · rfl
theorem NumsAt.tail {k : IntKind} {w : World} {B : Nat} {ad : Addr} {c : Nat} {r : List Nat} (h : NumsAt k w B (some ad) (c :: r)) : NumsAt k w B (some ⟨ad.block, ad.off + 1, none⟩) r := by
  intro hn
  obtain ⟨ad', e, hlt, hc⟩ := h (by simp)
  obtain rfl := Option.some.inj e
  refine ⟨_, rfl, hlt, fun j hj => ?_⟩
  have := hc (j + 1) (by simpa using hj)
  rw [show ad.add (j + 1) = (⟨ad.block, ad.off + 1, none⟩ : Addr).add j by rw [Nat.add_comm, ← add_add]; simp [Addr.add]] at this
  simpa using this
theorem NumsAt.dropA {k : IntKind} {w : World} {B : Nat} {ad : Addr} {xs : List Nat} (h : NumsAt k w B (some ad) xs) (n : Nat) : NumsAt k w B (some (ad.add n)) (xs.drop n) := by
  intro hn
  rw [List.length_drop] at hn
  obtain ⟨ad', e, hlt, hc⟩ := h (by omega)
  obtain rfl := Option.some.inj e
  refine ⟨_, rfl, by rw [block_add]; exact hlt, fun j hj => ?_⟩
  rw [List.length_drop] at hj
  rw [add_add, hc (n + j) (by omega)]
  simp [List.getD_eq_getElem?_getD]
set_option maxRecDepth 100000 in
set_option maxHeartbeats 2000000 in
theorem get_c (ad : Addr) (k c : Nat) (r : List Nat) (w : World) (h21 : c < 21) (hT : TabAt w) (hl : 1 + r.length = Op7.size c) (hk : 1 + r.length ≤ k) (hk2 : k ≤ 9223372036854775807) (hb : ∀ x ∈ r, x < 256) (h : NumsAt .u8 w w.heap.size (some ad) (c :: r)) :
    Calls Tryz.prog 132 #[.slice (some ad) (1 + r.length) k] w (fun e w' => e = .returned (.agg #[.int .u8 ((c : Nat) : Int), .int .i64 ((Op7.un (r.take (Op7.wid c).1) : Nat) : Int), .int .i64 ((Op7.un (r.drop (Op7.wid c).1) : Nat) : Int)]) ∧ Grew w w') := by
  obtain ⟨ad', e, hlt, hc⟩ := h (by simp)
  obtain rfl := Option.some.inj e
  have c0 := hc 0 (by simp)
  rw [add_zero] at c0
  change _ = some (Value.int .u8 ((c : Nat) : Int)) at c0
  have hl2 : r.length = (Op7.wid c).1 + (Op7.wid c).2 := by unfold Op7.size at hl; omega
  have hw2 := Op7.wid_le c
  have HT := hid hT
  have HW := hid (fun w' (hg : Grew w w') => owidths_c c w' h21 (HT.out.grew hg))
  clear hT hl hc e
  generalize (Op7.wid c).1 = x at *
  generalize (Op7.wid c).2 = y at *
  obtain ⟨mx, hmx⟩ : ∃ m, m = Op7.un (r.take x) := ⟨_, rfl⟩
  obtain ⟨my, hmy⟩ : ∃ m, m = Op7.un (r.drop x) := ⟨_, rfl⟩
  have HX : Hid (∀ (k' : Nat) (w' : World) (A : Option Addr), Grew w w' → (x = 0 ∨ A = some ⟨ad.block, ad.off + 1, none⟩) → Calls Tryz.prog 156 #[.slice A x k'] w' (fun e w2 => e = .returned (.int .i64 ((mx : Nat) : Int)) ∧ w2 = w')) := hid (fun k' w' A hg hA => by
    refine number_n A k' x mx (r.take x) w' (by rw [List.length_take]; omega) hmx.symm hw2.1 (fun z hz => hb z (List.mem_of_mem_take hz)) ?_
    rcases hA with rfl | rfl
    · exact NumsAt.nil _ _ _ _
    · exact (h.tail.take x).grew hg)
  have HY : Hid (∀ (k' : Nat) (w' : World) (A : Option Addr), Grew w w' → (y = 0 ∨ A = some ((⟨ad.block, ad.off + 1, none⟩ : Addr).add x)) → Calls Tryz.prog 156 #[.slice A y k'] w' (fun e w2 => e = .returned (.int .i64 ((my : Nat) : Int)) ∧ w2 = w')) := hid (fun k' w' A hg hA => by
    refine number_n A k' y my (r.drop x) w' (by rw [List.length_drop]; omega) hmy.symm hw2.2 (fun z hz => hb z (List.mem_of_mem_drop hz)) ?_
    rcases hA with h0 | rfl
    · have : r.drop x = [] := List.drop_eq_nil_of_le (by omega)
      rw [this]
      exact NumsAt.nil _ _ _ _
    · exact (h.tail.dropA x).grew hg)
  rw [← hmx, ← hmy]
  obtain ⟨n, hn⟩ : ∃ n, n = r.length := ⟨_, rfl⟩
  rw [← hn] at hl2 hk ⊢
  clear hn h hb hmx hmy
  subst hl2
  have hcase : (k = 1 ∧ x = 0 ∧ y = 0) ∨ (k = x + 1 ∧ 0 < x ∧ y = 0) ∨ (¬ k = 1 ∧ ¬ k - 1 = x ∧ x ≤ k - 1 ∧ (x : Int) ≤ (x : Int) + (y : Int)) := by omega
  rcases hcase with ⟨rfl, rfl, rfl⟩ | ⟨rfl, hx0, rfl⟩ | ⟨hk1, hx1, hx2, hx3⟩
  all_goals
    go_enter Tryz.func132, Tryz.ntmps132
    go_wp2_with fail
    have HB0 := hid (Blk.of_alloc w #[.int .u8 0, .int .i64 0, .int .i64 0] 181)
    go_quiet (fail)
    go_wp2_with fail
    refine (HW.out _ (((Grew.refl w).alloc _).drewN _)).mono ?_
    rintro e w2 ⟨rfl, y2, rfl⟩
    have HG2 := hid ((((Grew.refl w).alloc (.cells #[.int .u8 0, .int .i64 0, .int .i64 0] 181)).drewN nq).trans y2.grew.drew)
    have HB2 := hid (HB0.out.grew (((Grew.refl _).drewN nq).trans y2.grew.drew))
    go_wp2_with fail
    refine wp_region_still_tail 10 (by kernel_rfl) (by kernel_rfl) ?_
    simp only [List.take_succ_cons, List.take_zero, List.drop_succ_cons, List.drop_zero]
    change wpStill Tryz.prog _ y2.w.drew (fun a' => wpList Tryz.prog _ _ _ a' y2.w.drew) _ _
    generalize y2.w.drew = w3 at HG2 HB2 ⊢
    repeat still_step
    still_call (HX.out _ w3 _ HG2.out (by first | exact .inl trivial | exact .inr rfl))
    repeat still_step
    still_call (HY.out _ w3 _ HG2.out (by first | exact .inl trivial | exact .inr (add_row _ _)))
    repeat still_step
    refine wpStill_nil ?_
    have q0 := HB2.out.cell 0
    have q1 := HB2.out.cell 1
    have q2 := HB2.out.cell 2
    have f0 := HB2.out.frozen 0
    have f1 := HB2.out.frozen 1
    have f2 := HB2.out.frozen 2
    simp only [List.getElem?_toArray, List.getElem?_cons_zero, List.getElem?_cons_succ] at q0 q1 q2
    go_wp2_with fail
    have HB3 := ((HB2.out.put 0 (.int .u8 ((c : Nat) : Int))).put 1 (.int .i64 ((mx : Nat) : Int))).put 2 (.int .i64 ((my : Nat) : Int))
    exact bodyPost_ret (v := .agg #[.int .u8 ((c : Nat) : Int), .int .i64 ((mx : Nat) : Int), .int .i64 ((my : Nat) : Int)]) (res_op Tryz.results132 _ w.heap.size rfl _ _ _ _ (by simpa using HB3)) rfl ⟨rfl, ((HG2.out.setCell (Nat.le_refl _) _).setCell (Nat.le_refl _) _).setCell (Nat.le_refl _) _⟩
end Go.Proofs.YtjladeiecokpfaaGreatDoor
namespace Go.Proofs.YtjladeiecokpfaaGreatDoor
open Go.RowKit

end Go.Proofs.YtjladeiecokpfaaGreatDoor
namespace Go.Proofs.YtjladeiecokpfaaGreatDoor
open Go.RowKit

theorem op_ins : (Tryz.prog.info? 181).map (fun i => (i.zero, i.size, i.bytes)) = some (some (.agg #[.int .u8 0, .int .i64 0, .int .i64 0]), 3, 24) := by kernel_rfl
theorem op_int : (Tryz.prog.info? 3).map (fun i => (i.zero, i.size, i.bytes)) = some (some (.int .i64 0), 1, 8) := by kernel_rfl
/-- The cells of instructions. -/
def insCells (l : List Op7.Ins) : List Value := l.flatMap fun o => (opCells o).toList
theorem insCells_snoc (l : List Op7.Ins) (o : Op7.Ins) : insCells (l ++ [o]) = insCells l ++ (opCells o).toList := by simp [insCells]
theorem insCells_at (l : List Op7.Ins) (i : Nat) (o : Op7.Ins) (h : l[i]? = some o) (j : Nat) (u : Value) (hu : (opCells o)[j]? = some u) : (insCells l)[i * 3 + j]? = some u := by
  induction l generalizing i with
  | nil => simp at h
  | cons p l ih =>
    have e : insCells (p :: l) = (opCells p).toList ++ insCells l := by simp [insCells]
    have e3 : ((opCells p).toList).length = 3 := by simp [opCells]
    rw [e]
    cases i with
    | zero =>
      obtain rfl : p = o := by simpa using h
      have hj : j < 3 := by
        have := (Array.getElem?_eq_some_iff.1 hu).1
        simpa [opCells] using this
      rw [Nat.zero_mul, Nat.zero_add, List.getElem?_append_left (by omega)]
      simpa using hu
    | succ i =>
      rw [List.getElem?_append_right (by omega), show (i + 1) * 3 + j - ((opCells p).toList).length = i * 3 + j by omega]
      exact ih i (by simpa using h)
/-- A row of instructions of the call's own; 'e': the elements' type. -/
def RowI (e : TypeId) (w : World) (B : Nat) (A : Option Addr) (c : Nat) (l : List Op7.Ins) : Prop := Row w B e 3 A l.length c (insCells l) ∧ ∀ o ∈ l, o.code < 256
theorem RowI.grew {e : TypeId} {w w' : World} {B : Nat} {A : Option Addr} {c : Nat} {l : List Op7.Ins} (h : RowI e w B A c l) (hg : Grew w w') : RowI e w' B A c l := ⟨h.1.grew hg, h.2⟩
theorem RowI.nil (e : TypeId) (w : World) (B : Nat) : RowI e w B none 0 [] := ⟨Row.nil _ _ _ _, by simp⟩
theorem RowI.ops {e : TypeId} {w : World} {B : Nat} {A : Option Addr} {c : Nat} {l : List Op7.Ins} (h : RowI e w B A c l) : OpsAt w w.heap.size A l := by
  refine ⟨h.2, fun hl => ?_⟩
  rcases h.1.cases with ⟨_, _, _, ⟨_, h0, _⟩ | ⟨g, rfl, _, hlt, hc, _⟩⟩
  · omega
  · refine ⟨_, rfl, hlt, fun i o ho j u hu => ?_⟩
    have := hc (i * 3 + j) u (insCells_at l i o ho j u hu)
    rw [show (⟨g, 0, none⟩ : Addr).add (i * 3 + j) = ⟨g, i * 3 + j, none⟩ by unfold Addr.add; split <;> simp_all]
    exact this
/-- A row of numbers of the call's own. -/
def RowN (w : World) (B : Nat) (A : Option Addr) (c : Nat) (xs : List Nat) : Prop := Row w B 3 1 A xs.length c (numCells .i64 xs)
theorem RowN.grew {w w' : World} {B : Nat} {A : Option Addr} {c : Nat} {xs : List Nat} (h : RowN w B A c xs) (hg : Grew w w') : RowN w' B A c xs := Row.grew h hg
theorem RowN.nil (w : World) (B : Nat) : RowN w B none 0 [] := Row.nil _ _ _ _
theorem RowN.nums {w : World} {B : Nat} {A : Option Addr} {c : Nat} {xs : List Nat} (h : RowN w B A c xs) : NumsAt .i64 w w.heap.size A xs := Row.nums h
theorem Row.at_base {w : World} {B : Nat} {e : TypeId} {s : Nat} {A : Option Addr} {n c : Nat} {vs : List Value} (h : Row w B e s A n c vs) : ∀ k, AtRow A k → B ≤ k := by
  rintro k ⟨ad, rfl, rfl⟩
  rcases h.cases with ⟨_, _, _, ⟨h1, _⟩ | ⟨g, h1, hb, _⟩⟩
  · cases h1
  · obtain rfl := Option.some.inj h1
    exact hb
theorem Row.at_lt {w : World} {B : Nat} {e : TypeId} {s : Nat} {A : Option Addr} {n c : Nat} {vs : List Value} (h : Row w B e s A n c vs) : ∀ k, AtRow A k → k < w.heap.size := by
  rintro k ⟨ad, rfl, rfl⟩
  rcases h.cases with ⟨_, _, _, ⟨h1, _⟩ | ⟨g, h1, hb, hl, _⟩⟩
  · cases h1
  · obtain rfl := Option.some.inj h1
    exact hl
/-- Two rows share no block. -/
def Apart (A A2 : Option Addr) : Prop := ∀ k, AtRow A k → ¬ AtRow A2 k
theorem Apart.symm {A A2 : Option Addr} (h : Apart A A2) : Apart A2 A := fun k h2 h1 => h k h1 h2
theorem Apart.to {w : World} {A A2 A' : Option Addr} (h : Apart A A2) (r : RowTo w A A') (hlt : ∀ k, AtRow A2 k → k < w.heap.size) : Apart A' A2 := by
  rcases r with rfl | ⟨g, rfl, hg⟩
  · exact h
  · rintro k ⟨ad, h1, rfl⟩ h2
    obtain rfl := Option.some.inj h1
    have := hlt _ h2
    simp only at this
    omega
theorem Apart.far {A A2 : Option Addr} (h : Apart A A2) : ∀ g, A2 = some ⟨g, 0, none⟩ → ¬ AtRow A g := fun g hg h1 => h g h1 ⟨_, hg, rfl⟩
/-- 'append(out, o)', o an instruction that lies in a block of its own. -/
theorem wpList_pushI {ops : Array Oper} {rest : List Oper} {o : Oper} {a : Act} {Q : Exit → Act → World → Prop} (t e : TypeId) (z : Value) (hz : z.cells.size = 3) (ht : Tryz.prog.underlying t = some (.slice e)) (he : (Tryz.prog.info? e).map (fun i => (i.zero, i.size, i.bytes)) = some (some z, 3, 24))
    (w : World) (hgd : o.guard = none) (s x : Operand)
    (ho : o.op = .call { callee := .builtin .append, args := #[s, x], argTypes := #[t, t] })
    (B : Nat) (hB : B ≤ w.heap.size) (A : Option Addr) (c : Nat) (l : List Op7.Ins) (hs : a.eval s = .slice A l.length c) (hown : RowI e w B A c l) (p : Op7.Ins) (hp : p.code < 256) (H : Nat) (hH : w.heap.size = H) (hxv : a.eval x = .slice (some ⟨H, 0, none⟩) 1 1) (cs : Array Value) (hu : cs = opCells p)
    (hlen : l.length + 1 ≤ 1000000000000)
    (h : ∀ A' c' M w', Hid (M = l ++ [p]) → RowI e w' B A' c' M → Kept (AtRow A) w w' → RowTo w A A' → wpList Tryz.prog ops Q rest (a.put o.dst (.slice A' M.length c')) w') : wpList Tryz.prog ops Q (o :: rest) a (w.alloc (.cells cs e)) := by
  subst hH hu
  refine wpList_catR z 3 24 (w.alloc (.cells (opCells p) e)) hgd s x t e ho ht he hz (by decide) B (by simp only [World.size_alloc]; omega) A l.length c (insCells l) hs (hown.1.grew ((Grew.refl w).alloc _)) _ 1 1 (opCells p).toList hxv (by simp [opCells]) (by simp [opCells, Value.oneCell']) (by intro h; cases h) (fun ad had j v hv => ?_) (by omega) (by omega) (fun A' c' w' r1 r2 r3 => ?_)
  · obtain rfl := Option.some.inj had
    rw [show (⟨w.heap.size, 0, none⟩ : Addr).add j = ⟨w.heap.size, j, none⟩ by unfold Addr.add; split <;> simp_all, (Blk.new w e (opCells p)).cell j]
    simpa using hv
  · have := h A' c' (l ++ [p]) w' rfl ⟨by rw [List.length_append, insCells_snoc]; exact r1, fun o ho => by
      rcases List.mem_append.1 ho with ho | ho
      · exact hown.2 o ho
      · rw [List.mem_singleton.1 ho]; exact hp⟩ r2.of_alloc (r3.imp id (fun ⟨g, h1, h2⟩ => ⟨g, h1, by simp only [World.size_alloc] at h2; omega⟩))
    rwa [List.length_append] at this
/-- 'append(out, n)'. -/
theorem wpList_pushN {ops : Array Oper} {rest : List Oper} {o : Oper} {a : Act} {Q : Exit → Act → World → Prop} (w : World) (hgd : o.guard = none) (s x : Operand)
    (ho : o.op = .call { callee := .builtin .append, args := #[s, x], argTypes := #[58, 58] })
    (B : Nat) (hB : B ≤ w.heap.size) (A : Option Addr) (c : Nat) (ys : List Nat) (n : Nat) (hn : n = ys.length) (hs : a.eval s = .slice A n c) (hown : RowN w B A c ys) (v H : Nat) (hH : w.heap.size = H) (hxv : a.eval x = .slice (some ⟨H, 0, none⟩) 1 1) (u : Value) (hu : u = .int .i64 ((v : Nat) : Int))
    (hlen : n + 1 ≤ 1000000000000)
    (h : ∀ A' c' w', RowN w' B A' c' (ys ++ [v]) → Kept (AtRow A) w w' → RowTo w A A' → wpList Tryz.prog ops Q rest (a.put o.dst (.slice A' (n + 1) c')) w') : wpList Tryz.prog ops Q (o :: rest) a (w.alloc (.cells #[u] 3)) := by
  subst hu hn
  refine wpList_pushR (.int .i64 0) 8 w hgd s x 58 3 ho Tryz.underlying58 op_int rfl B hB A ys.length c (numCells .i64 ys) hs hown H hH hxv _ rfl (by omega) (by omega) fun A' c' w' r1 r2 r3 => ?_
  exact h A' c' w' (by unfold RowN; rw [List.length_append, numCells_append]; exact r1) r2 r3
end Go.Proofs.YtjladeiecokpfaaGreatDoor
namespace Go.Proofs.YtjladeiecokpfaaGreatDoor
open Go.RowKit

def ODecPost (w : World) (r : List Op7.Ins × List Nat × Nat) (e : Ending) (w' : World) : Prop :=
  ∃ A1 c1 A2 c2 L, e = .returned (.tuple #[.slice A1 (List.length L) c1, .slice A2 (List.length L) c2, errVal r.2.2]) ∧ L = r.1 ∧ RowI 181 w' w.heap.size A1 c1 L ∧ RowN w' w.heap.size A2 c2 r.2.1 ∧ Grew w w'
theorem ODecPost.none {w w' : World} {r : List Op7.Ins × List Nat × Nat} {k : Nat} (hr : r = ([], [], k)) (hg : Grew w w') : ODecPost w r (.returned (.tuple #[.slice none 0 0, .slice none 0 0, errVal k])) w' := by
  subst hr
  exact ⟨Option.none, 0, Option.none, 0, [], rfl, rfl, RowI.nil _ _ _, RowN.nil _ _, hg⟩
/-- 'get' on an instruction's bytes. -/
theorem get_at (ad : Addr) (bs : List Nat) (i x : Nat) (w : World) (hT : TabAt w) (hx : bs[i]? = some x) (h21 : x < 21) (hs : i + Op7.size x ≤ bs.length) (hb : ∀ z ∈ bs, z < 256) (h : NumsAt .u8 w w.heap.size (some ad) bs) (k : Nat) (hk : Op7.size x ≤ k) (hk2 : k ≤ 9223372036854775807) :
    Calls Tryz.prog 132 #[.slice (some (ad.add i)) (Op7.size x) k] w (fun e w' => e = .returned (.agg (opCells (Op7.insAt bs i x))) ∧ Grew w w') := by
  obtain ⟨e1, e2, e3, e4⟩ := Op7.insAt_row hx hs
  have hp := Op7.size_pos x
  have hn : NumsAt .u8 w w.heap.size (some (ad.add i)) (x :: (bs.drop (i + 1)).take (Op7.size x - 1)) := by
    rw [← e1]
    exact (h.dropA i).take _
  have := get_c (ad.add i) k x ((bs.drop (i + 1)).take (Op7.size x - 1)) w h21 hT (by omega) (by omega) hk2 (fun z hz => hb z (List.mem_of_mem_drop (List.mem_of_mem_take hz))) hn
  rw [e3, e4, e2, show 1 + (Op7.size x - 1) = Op7.size x by omega] at this
  exact this
set_option maxRecDepth 100000 in
set_option maxHeartbeats 2000000 in
theorem odecode_c (A : Option Addr) (c : Nat) (bs : List Nat) (w : World) (h : BytesAt w w.heap.size A bs) (hT : TabAt w) (hc : bs.length ≤ c) (hc2 : c ≤ 9223372036854775807) :
    Calls Tryz.prog 106 #[.slice A bs.length c] w (ODecPost w (Op7.decR bs)) := by
  have HA := hid h
  have HT := hid hT
  obtain ⟨n, en⟩ : ∃ n, n = bs.length := ⟨_, rfl⟩
  rw [← en] at hc ⊢
  have EN := hid en
  clear h hT en
  by_cases h5 : 512 < n
  · have f5 : (512 : Int) < n := by omega
    have HR := hid (Op7.decR_long (b := bs) (by rw [← EN.out]; exact h5))
    go_enter Tryz.func106, Tryz.ntmps106
    go_wp2_with fail
    go_ret3
    exact ODecPost.none HR.out (Grew.refl _)
  have f5 : (n : Int) ≤ 512 := by omega
  have H5 := hid (show ¬ 512 < bs.length by rw [← EN.out]; exact h5)
  go_enter Tryz.func106, Tryz.ntmps106
  go_wp2_with fail
  go_loopw [5, 6, 7] (fun s5 s6 s7 wr => ∃ (i : Nat) (A1 : Option Addr) (c1 : Nat) (A2 : Option Addr) (c2 : Nat) (L : List Op7.Ins), s5 = .slice A1 L.length c1 ∧ s6 = .slice A2 L.length c2 ∧ s7 = .int .i64 ((i : Nat) : Int) ∧ i ≤ n ∧ L.length ≤ i ∧ Grew w wr ∧ Hid (Op7.Done bs i L ∧ RowI 181 wr w.heap.size A1 c1 L ∧ RowN wr w.heap.size A2 c2 (Op7.offs L) ∧ Apart A1 A2)) (fun _ _ s7 _ => n - (intOf s7).toNat)
  case atStart => exact ⟨0, none, 0, none, 0, [], rfl, rfl, rfl, Nat.zero_le _, Nat.zero_le _, Grew.refl _, hid ⟨Op7.done_start bs, RowI.nil _ _ _, RowN.nil _ _, by rintro k ⟨_, h, _⟩; cases h⟩⟩
  case round =>
    obtain ⟨i, A1, c1, A2, c2, L, rfl, rfl, rfl, hi, hL, hg, H⟩ := hrel
    have HG := hid hg
    clear hg
    by_cases hlt : i < n
    · have f1 : (i : Int) < n := by omega
      obtain ⟨ad, rfl, hb, hcc⟩ := HA.out.2 (by rw [← EN.out]; omega)
      obtain ⟨x, hx⟩ : ∃ x, bs[i]? = some x := ⟨_, List.getElem?_eq_getElem (show i < bs.length by rw [← EN.out]; exact hlt)⟩
      have q := hcc i (by rw [← EN.out]; exact hlt)
      rw [show bs.getD i 0 = x by rw [List.getD_eq_getElem?_getD, hx]; rfl, ← HG.out.below.cell (by rw [block_add]; exact hb)] at q
      have hx2 := HA.out.1 x (List.mem_of_getElem? hx)
      have HS := hid (osize_c x wr hx2 (HT.out.grew HG.out))
      by_cases hok : x < 21 ∧ i + Op7.size x ≤ n
      · obtain ⟨h21, hs⟩ := hok
        rw [if_pos h21] at HS
        have HP := hid (fun w' (hg : Grew w w') k hk hk2 => get_at ad bs i x w' (HT.out.grew hg) hx h21 (by rw [← EN.out]; exact hs) HA.out.1 ((NumsAt.of_bytes HA.out).grew hg) k hk hk2)
        have HD := hid (Op7.done_next H.out.1 hx h21 (by rw [← EN.out]; exact hs))
        have HC : Hid ((Op7.insAt bs i x).code < 256) := hid hx2
        have hz1 := Op7.size_pos x
        have hz5 := Op7.size_le x
        generalize Op7.size x = sz at *
        generalize hp : Op7.insAt bs i x = p at *
        clear hp hx hcc
        obtain ⟨xp, ap, bp⟩ := p
        unfold opCells at HP
        simp only at HP
        have g1 : ((sz : Int) == 0) = false := by rw [beq_eq_false_iff_ne]; omega
        have g2 : ¬ ((n : Int) - i < sz) := by omega
        go_wp2_with fail
        refine HS.out.mono ?_
        rintro e w2 ⟨rfl, hg2⟩
        have HG2 := hid hg2
        clear hg2
        go_wp2_with fail
        refine (HP.out _ (HG.out.trans HG2.out) _ (by omega) (by omega)).mono ?_
        rintro e w3 ⟨rfl, hg3⟩
        have HGr := hid (HG2.out.trans hg3)
        have HG3 := hid (HG.out.trans HGr.out)
        have HI3 := hid (H.out.2.1.grew HGr.out)
        have HN3 := hid (H.out.2.2.1.grew HGr.out)
        have hol := hid (Op7.offs_len L)
        clear hg3 HP HS q
        go_wp2_with (at_builtin; first
          | (refine wpList_pushI 178 181 (.agg #[.int .u8 0, .int .i64 0, .int .i64 0]) rfl Tryz.underlying178 op_ins w3 rfl _ _ rfl w.heap.size HG3.out.below.size A1 c1 L rfl HI3.out ⟨xp, ap, bp⟩ HC.out _ rfl rfl _ rfl (by omega) ?_; rintro A4 c4 M4 W4 hM4 hO4 hK4 hT4; have HK4 := hid hK4; have HT4 := hid hT4; have HO4 := hid hO4; clear hK4 hT4 hO4)
          | (refine wpList_pushN W4 rfl _ _ rfl w.heap.size (Nat.le_trans HG3.out.below.size HK4.out.size) A2 c2 (Op7.offs L) _ hol.out.symm rfl (Row.kept HN3.out HK4.out (Apart.far H.out.2.2.2)) i _ rfl rfl _ rfl (by omega) ?_; rintro A5 c5 W5 hO5 hK5 hT5; have HK5 := hid hK5; have HT5 := hid hT5; have HO5 := hid hO5; clear hK5 hT5 hO5))
        have HAp := hid (Apart.to H.out.2.2.2 (RowTo.next (.inl rfl) HGr.out.below.size HT4.out) (fun k hk => Row.at_lt H.out.2.2.1 k hk))
        have HAq := hid (Apart.to HAp.out.symm HT5.out (fun k hk => Row.at_lt HO4.out.1 k hk)).symm
        go_round
        case rel => exact ⟨i + sz, A4, c4, A5, c5, M4, rfl, by rw [hM4.out, List.length_append]; rfl, by go_num, by omega, by rw [hM4.out, List.length_append]; simp; omega, (HK5.out.grew (HK4.out.grew HG3.out (Row.at_base HI3.out.1)) (Row.at_base HN3.out)), hid ⟨by rw [hM4.out]; exact HD.out, ⟨HO4.out.1.kept HK5.out (Apart.far HAp.out.symm), HO4.out.2⟩, by rw [hM4.out, Op7.offs_snoc, ← H.out.1.2.1]; exact HO5.out, HAq.out⟩⟩
        case measure => simp [intOf]; omega
      · have HR := hid (Op7.done_none H.out.1 hx (by rw [← EN.out]; exact hok) H5.out)
        have hz1 := Op7.size_pos x
        by_cases h21 : x < 21
        · rw [if_pos h21] at HS
          have hs : ¬ (i + Op7.size x ≤ n) := fun h => hok ⟨h21, h⟩
          have hz5 := Op7.size_le x
          clear hok hx hcc
          generalize Op7.size x = sz at *
          have g1 : ((sz : Int) == 0) = false := by rw [beq_eq_false_iff_ne]; omega
          have g2 : ((n : Int) - i < sz) := by omega
          go_wp2_with fail
          refine HS.out.mono ?_
          rintro e w2 ⟨rfl, hg2⟩
          go_wp2_with fail
          go_ret3
          exact ODecPost.none HR.out (HG.out.trans hg2)
        · rw [if_neg h21] at HS
          clear hok hx hcc
          go_wp2_with fail
          refine HS.out.mono ?_
          rintro e w2 ⟨rfl, hg2⟩
          go_wp2_with fail
          go_ret3
          exact ODecPost.none HR.out (HG.out.trans hg2)
    · have hin : i = n := by omega
      subst hin
      have HR := hid (show Op7.decR bs = (L, Op7.offs L, 0) from Op7.done_end (by have := H.out.1; rw [EN.out] at this; exact this) H5.out)
      go_wp2_with fail
      go_ret3
      exact ⟨A1, c1, A2, c2, L, by rw [HR.out]; rfl, by rw [HR.out], H.out.2.1, by rw [HR.out]; exact H.out.2.2.1, HG.out⟩
end Go.Proofs.YtjladeiecokpfaaGreatDoor

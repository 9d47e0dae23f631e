/- Parts of elder texts that this layer needs, joined: XOp8 XOp9 XOp4 XOp10 XOp11 XOp12. -/
import Derived.Test.YtjdgcgpidhljpaaGreatDoorYOpB
import Derived.Test.YtjdgcgpidhljpaaGreatDoorYBase
import Derived.Laws.BitsAllLaws
import Derived.Deep.DeepCutAuto
import Derived.Deep.RegionLaw
import Derived.StillTailTactics
import Derived.Test.YtjdgcgpidhljpaaGreatDoorYNum
import Derived.Laws.MakeOwn
namespace Go.Proofs.YtjdgcgpidhljpaaGreatDoor
open Go.RowKit

theorem RowTo.next {w w1 : World} {A A1 A2 : Option Addr} (r : RowTo w A A1) (hs : w.heap.size ≤ w1.heap.size) (q : RowTo w1 A1 A2) : RowTo w A A2 := by
  rcases q with rfl | ⟨g, rfl, hg⟩
  · exact r
  · exact .inr ⟨g, rfl, by omega⟩
/-- A row of bytes of the call's own. -/
def Row8 (w : World) (B : Nat) (A : Option Addr) (c : Nat) (xs : List Nat) : Prop := Row w B 5 1 A xs.length c (numCells .u8 xs)
theorem Row8.grew {w w' : World} {B : Nat} {A : Option Addr} {c : Nat} {xs : List Nat} (h : Row8 w B A c xs) (hg : Grew w w') : Row8 w' B A c xs := Row.grew h hg
theorem Row8.nil (w : World) (B : Nat) : Row8 w B none 0 [] := Row.nil _ _ _ _
theorem Row8.nums {w : World} {B : Nat} {A : Option Addr} {c : Nat} {xs : List Nat} (h : Row8 w B A c xs) : NumsAt .u8 w w.heap.size A xs := Row.nums h
def OPutPost (w : World) (B : Nat) (A : Option Addr) (xs ys : List Nat) (e : Ending) (w' : World) : Prop :=
  ∃ A' c' L, e = .returned (.slice A' (List.length L) c') ∧ L = xs ++ ys ∧ Row8 w' B A' c' L ∧ Kept (AtRow A) w w' ∧ RowTo w A A'
end Go.Proofs.YtjdgcgpidhljpaaGreatDoor
namespace Go.Proofs.YtjdgcgpidhljpaaGreatDoor
open Go.RowKit

theorem wrap64_of (n : Int) : IntKind.i64.wrap n = wrap64 n := by
  rw [IntKind.wrap_i64]; unfold wrap64; omega
theorem ofInt_i64 (n : Int) : (BitVec.ofInt 64 n).toNat = (n % 18446744073709551616).toNat := by
  simp [BitVec.toNat_ofInt]
theorem i64_or (a b : Int) : bits .or .i64 a b = wrap64 (((a % 18446744073709551616).toNat ||| (b % 18446744073709551616).toNat : Nat) : Int) := by
  show IntKind.i64.wrap ((BitVec.ofInt 64 a ||| BitVec.ofInt 64 b).toNat : Int) = _
  rw [BitVec.toNat_or, ofInt_i64, ofInt_i64, wrap64_of]
theorem or_256 (x y : Nat) (hx : x < 256) (hy : y < 256) : bits .or .i64 ((x : Int) * 256) (y : Int) = ((256 * x + y : Nat) : Int) := by
  rw [i64_or, show (((x : Int) * 256) % 18446744073709551616).toNat = x <<< 8 by rw [Nat.shiftLeft_eq]; omega, show ((y : Int) % 18446744073709551616).toNat = y by omega, ← Nat.shiftLeft_add_eq_or_of_lt (by omega : y < 2 ^ 8), Nat.shiftLeft_eq]
  unfold wrap64
  omega
theorem or_0 (x : Nat) (hx : x < 256) : bits .or .i64 0 (x : Int) = (x : Int) := by
  have := or_256 0 x (by decide) hx
  simpa using this

set_option maxRecDepth 100000 in
set_option maxHeartbeats 2000000 in
theorem number_c (A : Option Addr) (c : Nat) (xs : List Nat) (w : World) (hl : xs.length ≤ 2) (hb : ∀ x ∈ xs, x < 256) (h : NumsAt .u8 w w.heap.size A xs) :
    Calls Tryz.prog 127 #[.slice A xs.length c] w (fun e w' => e = .returned (.int .i64 ((Op7.un xs : Nat) : Int)) ∧ w' = w) := by
  match xs, hl, hb, h with
  | [], _, _, _ =>
    go_enter Tryz.func127, Tryz.ntmps127
    go_wp2_with fail
    refine wp_loop_rounds 3 ?_
    rw [rounds_succ]
    go_wp2_with fail
    go_ret
    exact ⟨rfl, rfl⟩
  | [x], _, hb, h =>
    have hx := hb x (by simp)
    obtain ⟨ad, rfl, hlt, hc⟩ := h (by simp)
    have c0 := hc 0 (by simp)
    rw [add_zero] at c0
    change _ = some (Value.int .u8 ((x : Nat) : Int)) at c0
    have o0 := or_0 x hx
    clear hc h
    rw [show ([x] : List Nat).length = 1 from rfl]
    go_enter Tryz.func127, Tryz.ntmps127
    go_wp2_with fail
    refine wp_loop_rounds 3 ?_
    rw [rounds_succ]
    go_wp2_with fail
    rw [rounds_succ]
    go_wp2_with fail
    go_ret
    exact ⟨rfl, rfl⟩
  | [x, y], _, hb, h =>
    have hx := hb x (by simp)
    have hy := hb y (by simp)
    obtain ⟨ad, rfl, hlt, hc⟩ := h (by simp)
    have c0 := hc 0 (by simp)
    have c1 := hc 1 (by simp)
    rw [add_zero] at c0
    change _ = some (Value.int .u8 ((x : Nat) : Int)) at c0
    change _ = some (Value.int .u8 ((y : Nat) : Int)) at c1
    rw [show ad.add 1 = ⟨ad.block, ad.off + 1, none⟩ by simp [Addr.add]] at c1
    have o0 := or_0 x hx
    have o1 := or_256 x y hx hy
    clear hc h
    rw [show ([x, y] : List Nat).length = 2 from rfl]
    go_enter Tryz.func127, Tryz.ntmps127
    go_wp2_with fail
    refine wp_loop_rounds 3 ?_
    rw [rounds_succ]
    go_wp2_with fail
    rw [rounds_succ]
    go_wp2_with fail
    rw [rounds_succ]
    go_wp2_with fail
    go_ret
    exact ⟨ret_int (by simp [Op7.un]), rfl⟩
end Go.Proofs.YtjdgcgpidhljpaaGreatDoor
namespace Go.Proofs.YtjdgcgpidhljpaaGreatDoor
open Go.RowKit

def opCells (o : Op7.Ins) : Array Value := #[.int .u8 ((o.code : Nat) : Int), .int .i64 o.a, .int .i64 o.b]
/-- Instructions that lie one behind the other from address 'A' on. -/
def OpsAt (w : World) (B : Nat) (A : Option Addr) (l : List Op7.Ins) : Prop :=
  (∀ o ∈ l, o.code < 256) ∧ (0 < l.length → ∃ ad, A = some ad ∧ ad.block < B ∧ ∀ i o, l[i]? = some o → ∀ j u, (opCells o)[j]? = some u → w.cell? (ad.add (i * 3 + j)) = some u)
theorem op_cell {w : World} {ad : Addr} {i : Nat} {o : Op7.Ins} (h : ∀ j u, (opCells o)[j]? = some u → w.cell? (ad.add (i * 3 + j)) = some u) :
    w.cell? (ad.add (i * 3)) = some (.int .u8 ((o.code : Nat) : Int)) ∧ w.cell? ⟨ad.block, (ad.add (i * 3)).off + 1, none⟩ = some (.int .i64 o.a) ∧ w.cell? ⟨ad.block, (ad.add (i * 3)).off + 2, none⟩ = some (.int .i64 o.b) := by
  have fa : ∀ {a : Addr} {j : Nat}, j ≠ 0 → a.add j = ⟨a.block, a.off + j, none⟩ := fun hj => by simp [Addr.add, hj]
  refine ⟨h 0 (.int .u8 ((o.code : Nat) : Int)) rfl, ?_, ?_⟩
  · have := h 1 _ rfl
    rwa [← add_add, fa (by decide), block_add] at this
  · have := h 2 _ rfl
    rwa [← add_add, fa (by decide), block_add] at this
theorem form_of (c : Nat) (w : World) (hm : c < 256) :
    Calls Tryz.prog 80 #[.int .u8 (c : Nat)] w (fun e w' => e = .returned (.tuple #[.string (formB c), .bool (decide (c < 21))]) ∧ Grew w w') := by
  have h := form_c c w hm
  have e : (if c < 21 then formB c else ⟨#[]⟩) = formB c := by
    split
    · rfl
    · rename_i hc
      have : Op7.wid c = (0, 0) := by
        unfold Op7.wid
        rw [List.getD_eq_getElem?_getD, List.getElem?_eq_none (by simpa [Op7.widths] using hc)]
        rfl
      rw [formB, this]
      rfl
  rwa [e] at h

end Go.Proofs.YtjdgcgpidhljpaaGreatDoor
namespace Go.Proofs.YtjdgcgpidhljpaaGreatDoor
open Go.RowKit

theorem Blk.of_alloc (w : World) (cs : Array Value) (t : TypeId) : Blk (w.alloc (.cells cs t)) w.heap.size t cs := heap_alloc_new w _
theorem RowTo.not_at {w : World} {A A' : Option Addr} {g : Nat} (r : RowTo w A A') (h : ¬ AtRow A g) (hg : g < w.heap.size) : ¬ AtRow A' g := by
  rcases r with rfl | ⟨k, rfl, hk⟩
  · exact h
  · rintro ⟨ad, h1, rfl⟩
    obtain rfl := Option.some.inj h1
    simp only at hg
    omega
end Go.Proofs.YtjdgcgpidhljpaaGreatDoor
namespace Go.Proofs.YtjdgcgpidhljpaaGreatDoor
open Go.RowKit

theorem number_n (A : Option Addr) (c n m : Nat) (xs : List Nat) (w : World) (hn : xs.length = n) (hm : Op7.un xs = m) (hl : n ≤ 2) (hb : ∀ x ∈ xs, x < 256) (h : NumsAt .u8 w w.heap.size A xs) :
    Calls Tryz.prog 127 #[.slice A n c] w (fun e w' => e = .returned (.int .i64 ((m : Nat) : Int)) ∧ w' = w) := by
  subst hn hm
  exact number_c A c xs w hl hb h
theorem res_op {fn : Func} {a : Tmp} (hr : fn.results = #[ResultVar.cell a 119]) (tmps : Array Value) (g : Nat) (ha : tmps.getD a undef = .pointer (some ⟨g, 0, none⟩)) (w : World) (c0 c1 c2 : Value) (hb : Blk w g 119 #[c0, c1, c2]) :
    (results fn tmps).run Tryz.prog w = .ok (.agg #[c0, c1, c2]) w := by
  have y0 := hb.cell 0
  have y1 := hb.cell 1
  have y2 := hb.cell 2
  simp only [List.getElem?_toArray, List.getElem?_cons_zero, List.getElem?_cons_succ] at y0 y1 y2
  have ha' : tmps[a]?.getD undef = .pointer (some ⟨g, 0, none⟩) := by simpa using ha
  simp [results, go_sem, *]
theorem add_row (ad : Addr) (x : Nat) : some (⟨ad.block, ad.off + 1 + x, none⟩ : Addr) = some ((⟨ad.block, ad.off + 1, none⟩ : Addr).add x) := by
  unfold Addr.add
  split
  · rename_i h; subst h; rfl
  · rfl
theorem NumsAt.tail {k : IntKind} {w : World} {B : Nat} {ad : Addr} {c : Nat} {r : List Nat} (h : NumsAt k w B (some ad) (c :: r)) : NumsAt k w B (some ⟨ad.block, ad.off + 1, none⟩) r := by
  intro hn
  obtain ⟨ad', e, hlt, hc⟩ := h (by simp)
  obtain rfl := Option.some.inj e
  refine ⟨_, rfl, hlt, fun j hj => ?_⟩
  have := hc (j + 1) (by simpa using hj)
  rw [show ad.add (j + 1) = (⟨ad.block, ad.off + 1, none⟩ : Addr).add j by rw [Nat.add_comm, ← add_add]; simp [Addr.add]] at this
  simpa using this
theorem NumsAt.dropA {k : IntKind} {w : World} {B : Nat} {ad : Addr} {xs : List Nat} (h : NumsAt k w B (some ad) xs) (n : Nat) : NumsAt k w B (some (ad.add n)) (xs.drop n) := by
  intro hn
  rw [List.length_drop] at hn
  obtain ⟨ad', e, hlt, hc⟩ := h (by omega)
  obtain rfl := Option.some.inj e
  refine ⟨_, rfl, by rw [block_add]; exact hlt, fun j hj => ?_⟩
  rw [List.length_drop] at hj
  rw [add_add, hc (n + j) (by omega)]
  simp [List.getD_eq_getElem?_getD]
set_option maxRecDepth 100000 in
set_option maxHeartbeats 2000000 in
theorem get_c (ad : Addr) (k c : Nat) (r : List Nat) (w : World) (h21 : c < 21) (hT : TabAt w) (hl : 1 + r.length = Op7.size c) (hk : 1 + r.length ≤ k) (hk2 : k ≤ 9223372036854775807) (hb : ∀ x ∈ r, x < 256) (h : NumsAt .u8 w w.heap.size (some ad) (c :: r)) :
    Calls Tryz.prog 100 #[.slice (some ad) (1 + r.length) k] w (fun e w' => e = .returned (.agg #[.int .u8 ((c : Nat) : Int), .int .i64 ((Op7.un (r.take (Op7.wid c).1) : Nat) : Int), .int .i64 ((Op7.un (r.drop (Op7.wid c).1) : Nat) : Int)]) ∧ Grew w w') := by
  obtain ⟨ad', e, hlt, hc⟩ := h (by simp)
  obtain rfl := Option.some.inj e
  have c0 := hc 0 (by simp)
  rw [add_zero] at c0
  change _ = some (Value.int .u8 ((c : Nat) : Int)) at c0
  have hl2 : r.length = (Op7.wid c).1 + (Op7.wid c).2 := by unfold Op7.size at hl; omega
  have hw2 := Op7.wid_le c
  have HT := hid hT
  have HW := hid (fun w' (hg : Grew w w') => owidths_c c w' h21 (HT.out.grew hg))
  clear hT hl hc e
  generalize (Op7.wid c).1 = x at *
  generalize (Op7.wid c).2 = y at *
  obtain ⟨mx, hmx⟩ : ∃ m, m = Op7.un (r.take x) := ⟨_, rfl⟩
  obtain ⟨my, hmy⟩ : ∃ m, m = Op7.un (r.drop x) := ⟨_, rfl⟩
  have HX : Hid (∀ (k' : Nat) (w' : World) (A : Option Addr), Grew w w' → (x = 0 ∨ A = some ⟨ad.block, ad.off + 1, none⟩) → Calls Tryz.prog 127 #[.slice A x k'] w' (fun e w2 => e = .returned (.int .i64 ((mx : Nat) : Int)) ∧ w2 = w')) := hid (fun k' w' A hg hA => by
    refine number_n A k' x mx (r.take x) w' (by rw [List.length_take]; omega) hmx.symm hw2.1 (fun z hz => hb z (List.mem_of_mem_take hz)) ?_
    rcases hA with rfl | rfl
    · exact NumsAt.nil _ _ _ _
    · exact (h.tail.take x).grew hg)
  have HY : Hid (∀ (k' : Nat) (w' : World) (A : Option Addr), Grew w w' → (y = 0 ∨ A = some ((⟨ad.block, ad.off + 1, none⟩ : Addr).add x)) → Calls Tryz.prog 127 #[.slice A y k'] w' (fun e w2 => e = .returned (.int .i64 ((my : Nat) : Int)) ∧ w2 = w')) := hid (fun k' w' A hg hA => by
    refine number_n A k' y my (r.drop x) w' (by rw [List.length_drop]; omega) hmy.symm hw2.2 (fun z hz => hb z (List.mem_of_mem_drop hz)) ?_
    rcases hA with h0 | rfl
    · have : r.drop x = [] := List.drop_eq_nil_of_le (by omega)
      rw [this]
      exact NumsAt.nil _ _ _ _
    · exact (h.tail.dropA x).grew hg)
  rw [← hmx, ← hmy]
  obtain ⟨n, hn⟩ : ∃ n, n = r.length := ⟨_, rfl⟩
  rw [← hn] at hl2 hk ⊢
  clear hn h hb hmx hmy
  subst hl2
  have hcase : (k = 1 ∧ x = 0 ∧ y = 0) ∨ (k = x + 1 ∧ 0 < x ∧ y = 0) ∨ (¬ k = 1 ∧ ¬ k - 1 = x ∧ x ≤ k - 1 ∧ (x : Int) ≤ (x : Int) + (y : Int)) := by omega
  rcases hcase with ⟨rfl, rfl, rfl⟩ | ⟨rfl, hx0, rfl⟩ | ⟨hk1, hx1, hx2, hx3⟩
  all_goals
    go_enter Tryz.func100, Tryz.ntmps100
    go_wp2_with fail
    have HB0 := hid (Blk.of_alloc w #[.int .u8 0, .int .i64 0, .int .i64 0] 119)
    go_quiet (fail)
    go_wp2_with fail
    refine (HW.out _ (((Grew.refl w).alloc _).drewN _)).mono ?_
    rintro e w2 ⟨rfl, y2, rfl⟩
    have HG2 := hid ((((Grew.refl w).alloc (.cells #[.int .u8 0, .int .i64 0, .int .i64 0] 119)).drewN nq).trans y2.grew.drew)
    have HB2 := hid (HB0.out.grew (((Grew.refl _).drewN nq).trans y2.grew.drew))
    go_wp2_with fail
    refine wp_region_still_tail 10 (by kernel_rfl) (by kernel_rfl) ?_
    simp only [List.take_succ_cons, List.take_zero, List.drop_succ_cons, List.drop_zero]
    change wpStill Tryz.prog _ y2.w.drew (fun a' => wpList Tryz.prog _ _ _ a' y2.w.drew) _ _
    generalize y2.w.drew = w3 at HG2 HB2 ⊢
    repeat still_step
    still_call (HX.out _ w3 _ HG2.out (by first | exact .inl trivial | exact .inr rfl))
    repeat still_step
    still_call (HY.out _ w3 _ HG2.out (by first | exact .inl trivial | exact .inr (add_row _ _)))
    repeat still_step
    refine wpStill_nil ?_
    have q0 := HB2.out.cell 0
    have q1 := HB2.out.cell 1
    have q2 := HB2.out.cell 2
    have f0 := HB2.out.frozen 0
    have f1 := HB2.out.frozen 1
    have f2 := HB2.out.frozen 2
    simp only [List.getElem?_toArray, List.getElem?_cons_zero, List.getElem?_cons_succ] at q0 q1 q2
    go_wp2_with fail
    have HB3 := ((HB2.out.put 0 (.int .u8 ((c : Nat) : Int))).put 1 (.int .i64 ((mx : Nat) : Int))).put 2 (.int .i64 ((my : Nat) : Int))
    exact bodyPost_ret (v := .agg #[.int .u8 ((c : Nat) : Int), .int .i64 ((mx : Nat) : Int), .int .i64 ((my : Nat) : Int)]) (res_op Tryz.results100 _ w.heap.size rfl _ _ _ _ (by simpa using HB3)) rfl ⟨rfl, ((HG2.out.setCell (Nat.le_refl _) _).setCell (Nat.le_refl _) _).setCell (Nat.le_refl _) _⟩
end Go.Proofs.YtjdgcgpidhljpaaGreatDoor
namespace Go.Proofs.YtjdgcgpidhljpaaGreatDoor
open Go.RowKit

theorem Row8.of_own {w0 w : World} {A : Option Addr} {c : Nat} {xs : List Nat} (h : OwnNums .u8 w0 w 5 A c xs) : Row8 w w0.heap.size A c xs := h
theorem Row8.at_base {w : World} {B : Nat} {A : Option Addr} {c : Nat} {xs : List Nat} (h : Row8 w B A c xs) : ∀ k, AtRow A k → B ≤ k := by
  rintro k ⟨ad, rfl, rfl⟩
  rcases Row.cases h with ⟨_, _, _, ⟨h1, _⟩ | ⟨g, h1, hb, _⟩⟩
  · cases h1
  · obtain rfl := Option.some.inj h1
    exact hb
end Go.Proofs.YtjdgcgpidhljpaaGreatDoor

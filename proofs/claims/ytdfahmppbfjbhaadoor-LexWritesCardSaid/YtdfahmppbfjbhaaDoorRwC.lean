/- Stage 13, the document's own: a text's bytes in a row; One. -/
import Derived.Test.YtdfahmppbfjbhaaDoorRwB
import Derived.Test.YtdfahmppbfjbhaaDoorLxQ
import Derived.ArgAppend
import Derived.Lib.ConvBytes
namespace Go.Proofs.YtdfahmppbfjbhaaDoor
open Go.RowKit

theorem u8_info13 : (Tryd.prog.info? 5).map (fun i => (i.zero, i.size, i.bytes)) = some (some (.int .u8 0), 1, 1) := by kernel_rfl
/-- Bytes as numbers. -/
def ns (l : List UInt8) : List Nat := l.map UInt8.toNat
theorem ns_len (l : List UInt8) : (ns l).length = l.length := by simp [ns]
theorem ns_app (a b : List UInt8) : ns (a ++ b) = ns a ++ ns b := by simp [ns]
theorem ns_get (l : List UInt8) (j : Nat) : (ns l).getD j 0 = (l.getD j 0).toNat := by
  simp only [ns, List.getD_eq_getElem?_getD, List.getElem?_map]
  cases l[j]? <;> rfl
/-- The world behind '[]byte(s)'. -/
def bW (w : World) (s : ByteArray) : World := Lib.bytesWorld w 5 s
theorem bW_grew (w : World) (s : ByteArray) : Grew w (bW w s) :=
  .mk ⟨by simp [bW, Lib.bytesWorld, World.freeze, World.alloc, World.drew, -World.alloc_eq, -World.drew_eq], by simp [bW, Lib.bytesWorld, World.freeze, World.alloc, World.drew, -World.alloc_eq, -World.drew_eq], by simp [bW, Lib.bytesWorld, World.freeze, World.alloc, World.drew, -World.alloc_eq, -World.drew_eq], by unfold bW; rw [Lib.bytesWorld_size]; omega, fun j hj => Lib.bytesWorld_at_old w _ s j hj⟩
theorem bW_size (w : World) (s : ByteArray) : (bW w s).heap.size = w.heap.size + 1 := Lib.bytesWorld_size _ _ _
theorem bW_cell (w : World) (s : ByteArray) (j : Nat) (hj : j < s.size) : (bW w s).cell? ⟨w.heap.size, j, none⟩ = some (.int .u8 (((ns (bs s)).getD j 0 : Nat) : Int)) := by
  unfold bW
  rw [Lib.bytesWorld_cell w _ s j hj, ns_get]
  rfl
theorem bW_conv (w : World) (s : ByteArray) : (convert 9 54 (.string s)).run Tryd.prog w = .ok (.slice (some ⟨w.heap.size, 0, none⟩) s.size (grownCap w s.size 0 5)) (bW w s) :=
  Lib.run_convert_string_bytes w 9 54 5 s Tryd.underlying9 Tryd.underlying54 Tryd.underlying5
theorem bW_nums (w : World) (s : ByteArray) : NumsAt .u8 (bW w s) (bW w s).heap.size (some ⟨w.heap.size, 0, none⟩) (ns (bs s)) := fun _ =>
  ⟨_, rfl, by rw [bW_size]; exact Nat.lt_succ_self _, fun j hj => by
    rw [ns_len, bs_len] at hj
    rw [show (⟨w.heap.size, 0, none⟩ : Addr).add j = ⟨w.heap.size, j, none⟩ by unfold Addr.add; split <;> simp_all]
    exact bW_cell w s j hj⟩
theorem kept_setCells {F : Nat → Prop} {a : World} {g : Nat} (hg : F g) : ∀ (us : List Value) (o : Nat) {b : World}, Kept F a b → Kept F a (b.setCells g o us)
  | [], _, _, h => h
  | u :: us, o, _, h => kept_setCells hg us (o + 1) (h.setCell (p := ⟨g, o, none⟩) (fun _ => hg) u)
/-- 'append([]byte(s), v)'. -/
theorem wpList_conv_push {ops : Array Oper} {rest : List Oper} {o : Oper} {a : Act} {Q : Exit → Act → World → Prop} (w : World) (hgd : o.guard = none) (s x : Operand)
    (ho : o.op = .call { callee := .builtin .append, args := #[s, x], argTypes := #[54, 54] })
    (t : ByteArray) (ht : t.size ≤ 1000000) (B0 : Nat) (hB0 : w.heap.size = B0) (hs : a.eval s = .slice (some ⟨B0, 0, none⟩) t.size (grownCap w t.size 0 5)) (v : Nat) (H : Nat) (hH : (bW w t).heap.size = H) (hxv : a.eval x = .slice (some ⟨H, 0, none⟩) 1 1)
    (h : ∀ A c w', NumsAt .u8 w' w'.heap.size A (ns (bs t) ++ [v]) → Grew w w' → wpList Tryd.prog ops Q rest (a.put o.dst (.slice A (t.size + 1) c)) w') : wpList Tryd.prog ops Q (o :: rest) a ((bW w t).alloc (.cells #[.int .u8 ((v : Nat) : Int)] 5)) := by
  subst hH hB0
  obtain ⟨i, hi, hz0, hz1, hz2⟩ := info_parts u8_info13
  have hge := grownCap_ge w t.size 0 5
  have hG := bW_grew w t
  have hA := (Grew.refl (bW w t)).alloc (.cells #[.int .u8 ((v : Nat) : Int)] 5)
  have hG2 := hG.trans hA
  have hb := Blk.new (bW w t) 5 #[.int .u8 ((v : Nat) : Int)]
  have hlt : w.heap.size < (bW w t).heap.size := by rw [bW_size]; exact Nat.lt_succ_self _
  have hold : ∀ j, ((bW w t).alloc (.cells #[.int .u8 ((v : Nat) : Int)] 5)).cell? ⟨w.heap.size, j, none⟩ = (bW w t).cell? ⟨w.heap.size, j, none⟩ := fun j => hA.below.cell hlt
  have hfro : ∀ j, ((bW w t).alloc (.cells #[.int .u8 ((v : Nat) : Int)] 5)).frozen? ⟨w.heap.size, j, none⟩ = (bW w t).frozen? ⟨w.heap.size, j, none⟩ := fun j => World.frozen?_of_block (hA.below.block _ hlt)
  have hat := Lib.bytesWorld_at_new w 5 t
  have hsz : (Lib.bytesCells w 5 t).size = grownCap w t.size 0 5 := by
    unfold Lib.bytesCells
    rw [Array.size_append, Array.size_map, Array.size_replicate]
    change t.size + _ = _
    omega
  have hcl : ∀ j u, (numCells .u8 (ns (bs t)))[j]? = some u → ((bW w t).alloc (.cells #[.int .u8 ((v : Nat) : Int)] 5)).cell? ⟨w.heap.size, 0 + j, none⟩ = some u := by
    intro j u hu
    have hj := (List.getElem?_eq_some_iff.1 hu).1
    rw [numCells_length] at hj
    rw [numCells_get .u8 _ j hj] at hu
    rw [← hu, Nat.zero_add, hold, bW_cell w t j (by rw [ns_len, bs_len] at hj; exact hj)]
  have hnl : (numCells .u8 (ns (bs t))).length = t.size * 1 := by rw [numCells_length, ns_len, bs_len, Nat.mul_one]
  refine wpList_append_arg _ hgd s x 54 ho 5 i (.int .u8 0) 1 1 Tryd.underlying54 hi hz0 hz1 hz2 rfl (by decide) w.heap.size 0 t.size _ (numCells .u8 (ns (bs t))) hs hnl hcl ⟨(bW w t).heap.size, 0, none⟩ 1 1 [.int .u8 ((v : Nat) : Int)] hxv rfl ?c1 ?c2 ?spare (by simp only [maxLen]; omega) (by omega) ?room ?grow
  case c1 => exact fun j u hu => blk_row (cs := [.int .u8 ((v : Nat) : Int)]) hb _ rfl j u hu
  case c2 =>
    intro u hu
    rw [List.mem_singleton] at hu
    subst hu
    rfl
  case spare =>
    intro hr j hj
    obtain rfl : j = 0 := by simpa using hj
    rw [Nat.mul_one, Nat.zero_add, Nat.add_zero]
    constructor
    · rw [hold]
      unfold World.cell?
      simp only [bW, hat]
      rw [Array.getElem?_eq_getElem (by rw [hsz]; omega)]
      rfl
    · rw [hfro]
      unfold World.frozen?
      simp only [bW, hat, hsz]
      rw [Bool.and_eq_false_iff]
      left
      rw [decide_eq_false_iff_not]
      omega
  case room =>
    intro hr
    refine h _ _ _ (fun _ => ⟨_, rfl, ?_, fun j hj => ?_⟩) ?_
    · have := (kept_setCells (F := (· = w.heap.size)) (g := w.heap.size) rfl [.int .u8 ((v : Nat) : Int)] (0 + t.size * 1) (Kept.refl _ ((bW w t).alloc (.cells #[.int .u8 ((v : Nat) : Int)] 5)))).size
      have h2 := hA.below.size
      simp only
      omega
    · rw [List.length_append, ns_len, bs_len] at hj
      rw [show (⟨w.heap.size, 0, none⟩ : Addr).add j = ⟨w.heap.size, j, none⟩ by unfold Addr.add; split <;> simp_all]
      rcases (by simp at hj; omega : j < t.size ∨ j = t.size) with h1 | rfl
      · rw [World.cell?_setCells_out _ _ _ _ _ (fun _ _ => by simp only; omega), hold, bW_cell w t j h1]
        rw [List.getD_eq_getElem?_getD, List.getD_eq_getElem?_getD, List.getElem?_append_left (by rw [ns_len, bs_len]; exact h1)]
      · have h4 := World.cell?_setCells_in w.heap.size [.int .u8 ((v : Nat) : Int)] (0 + t.size * 1) ((bW w t).alloc (.cells #[.int .u8 ((v : Nat) : Int)] 5)) (fun j hj => by
          obtain rfl : j = 0 := by simpa using hj
          rw [Nat.mul_one, Nat.zero_add, Nat.add_zero, hold]
          unfold World.cell?
          simp only [bW, hat]
          rw [Array.getElem?_eq_getElem (by rw [hsz]; omega)]
          rfl) 0 (by simp)
        rw [show (0 + t.size * 1 + 0) = t.size by omega] at h4
        rw [h4, List.getD_eq_getElem?_getD, List.getElem?_append_right (by rw [ns_len, bs_len]; exact Nat.le_refl _)]
        rw [ns_len, bs_len, Nat.sub_self]
        rfl
    · exact (kept_setCells (F := (· = w.heap.size)) (g := w.heap.size) rfl [.int .u8 ((v : Nat) : Int)] (0 + t.size * 1) (Kept.refl _ ((bW w t).alloc (.cells #[.int .u8 ((v : Nat) : Int)] 5)))).grew hG2 (fun k e => by rw [e]; exact Nat.le_refl _)
  case grow =>
    intro hr v' w' hown hgr
    have hG3 : Grew w w' := .mk (hG2.below.grown hgr hG2.below.size (fun g hgk => by cases hgk))
    rw [show ([.int .u8 ((v : Nat) : Int)] : List Value) = numCells .u8 [v] from rfl, ← numCells_append] at hown
    rcases hown.2 with ⟨rfl, h0⟩ | ⟨g, cap, cur, rfl, hrr⟩
    · omega
    · exact h _ _ _ (Row.nums (B := ((bW w t).alloc (.cells #[.int .u8 ((v : Nat) : Int)] 5)).heap.size) (e := 5) (c := cap) (by rw [List.length_append, ns_len, bs_len]; exact hown)) hG3
end Go.Proofs.YtdfahmppbfjbhaaDoor

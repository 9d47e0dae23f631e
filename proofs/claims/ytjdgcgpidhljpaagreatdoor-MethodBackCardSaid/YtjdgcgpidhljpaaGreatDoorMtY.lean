/- Stage 9: a method stored into a box. -/
import Derived.Test.YtjdgcgpidhljpaaGreatDoorMtZ
import Derived.Test.YtjdgcgpidhljpaaGreatDoorYOpC
namespace Go.Proofs.YtjdgcgpidhljpaaGreatDoor
open Go.RowKit

set_option maxRecDepth 100000 in
theorem wpList_store3 {ops : Array Oper} {rest : List Oper} {o : Oper} {a : Act} {Q : Exit → Act → World → Prop} (w : World) (hgd : o.guard = none) (s x : Operand) (ho : o.op = .store 37 s x) (hd : o.dst = none) {g : Nat} {t : TypeId} {a0 a1 a2 : Value} {s0 : ByteArray} {A B : Option Addr} {n c m d : Nat}
    (hs : a.eval s = .pointer (some ⟨g, 0, none⟩)) (hx : a.eval x = .agg #[.string s0, .slice A n c, .slice B m d]) (hb : Blk w g t #[a0, a1, a2])
    (h : ∀ w', Blk w' g t #[.string s0, .slice A n c, .slice B m d] → Kept (· = g) w w' → wpList Tryz.prog ops Q rest a w') : wpList Tryz.prog ops Q (o :: rest) a w := by
  refine wpList_plain hgd fun K hK => ?_
  have q0 := hb.cell 0
  have q1 := hb.cell 1
  have q2 := hb.cell 2
  have k := hb.frozen
  simp only [List.getElem?_toArray, List.getElem?_cons_zero, List.getElem?_cons_succ] at q0 q1 q2
  have hfin := hK a _ (h _ (hb.put3 (.string s0) (.slice A n c) (.slice B m d)) (kept3 (Kept.refl (· = g) w) (fun _ => rfl) (.string s0) (.slice A n c) (.slice B m d)))
  unfold Oper.wp
  clear hK h
  simp only [execOp, ho, hs, hx]
  go_simp
  exact hfin
/-- 'append(out, xs...)' of bytes. -/
theorem wpList_cat8 {ops : Array Oper} {rest : List Oper} {o : Oper} {a : Act} {Q : Exit → Act → World → Prop} (w : World) (hgd : o.guard = none) (s x : Operand)
    (ho : o.op = .call { callee := .builtin .append, args := #[s, x], argTypes := #[26, 26] })
    (B : Nat) (hB : B ≤ w.heap.size) (A : Option Addr) (n c : Nat) (ys : List Nat) (hn : n = ys.length) (hs : a.eval s = .slice A n c) (hown : Row8 w B A c ys) (A2 : Option Addr) (m c2 : Nat) (xs : List Nat) (hm : m = xs.length) (hxv : a.eval x = .slice A2 m c2)
    (hx : NumsAt .u8 w w.heap.size A2 xs) (hlen : n + m ≤ 1000000)
    (h : ∀ A' c' w', Row8 w' B A' c' (ys ++ xs) → Kept (AtRow A) w w' → RowTo w A A' → wpList Tryz.prog ops Q rest (a.put o.dst (.slice A' (n + m) c')) w') : wpList Tryz.prog ops Q (o :: rest) a w := by
  subst hn hm
  refine wpList_catR (.int .u8 0) 1 1 w hgd s x 26 5 ho Tryz.underlying26 u8_info9 rfl (by decide) B hB A ys.length c (numCells .u8 ys) hs hown A2 xs.length c2 (numCells .u8 xs) hxv (by rw [numCells_length, Nat.mul_one]) (fun u hu => ?_) (fun e => ?_) (fun ad e j u hu => ?_) (by omega) (by omega) fun A' c' w' r1 r2 r3 => h A' c' w' ?_ r2 r3
  · obtain ⟨x, _, rfl⟩ := List.mem_map.1 hu
    rfl
  · rcases Nat.eq_zero_or_pos xs.length with h0 | h0
    · exact h0
    · obtain ⟨ad, h1, _⟩ := hx h0
      rw [e] at h1
      cases h1
  · have hj : j < xs.length := by
      have := (List.getElem?_eq_some_iff.1 hu).1
      rwa [numCells_length] at this
    obtain ⟨ad', h1, _, hc⟩ := hx (by omega)
    rw [e] at h1
    cases h1
    rw [numCells_get _ _ _ hj] at hu
    cases hu
    exact hc j hj
  · unfold Row8
    rw [List.length_append, numCells_append]
    exact r1
theorem zero_lit (w : World) : NumsAt .u8 (w.alloc (.cells #[.int .u8 0] 5)) (w.alloc (.cells #[.int .u8 0] 5)).heap.size (some ⟨w.heap.size, 0, none⟩) [0] := by
  intro _
  refine ⟨_, rfl, by simp, fun j hj => ?_⟩
  rw [show (⟨w.heap.size, 0, none⟩ : Addr).add j = ⟨w.heap.size, j, none⟩ by unfold Addr.add; split <;> simp_all, (Blk.new w 5 #[.int .u8 0]).cell j]
  obtain rfl : j = 0 := by simpa using hj
  rfl
theorem BytesAt.cut {w : World} {B : Nat} {A : Option Addr} {xs : List Nat} (h : BytesAt w B A xs) (k : Nat) : BytesAt w B A (xs.take k) := by
  refine ⟨fun x hx => h.1 x (List.mem_of_mem_take hx), fun hl => ?_⟩
  rw [List.length_take] at hl
  obtain ⟨ad, e, hb, hc⟩ := h.2 (by omega)
  refine ⟨ad, e, hb, fun j hj => ?_⟩
  rw [List.length_take] at hj
  rw [hc j (by omega)]
  simp [List.getD_eq_getElem?_getD, show j < k by omega]
/-- What Decode answers where there is none. -/
theorem dec_no {w : World} {b : List Nat} {e : Ending} {w' : World} (h : DecPost w b e w') (hn : Mt.decode b = none) : e = .returned (.tuple #[.agg #[.string ⟨#[]⟩, .slice none 0 0, .slice none 0 0], .iface 66 (.int .i64 2)]) ∧ Grew w w' := by
  rcases h with ⟨_, h1, h2⟩ | ⟨v, hd, _⟩
  · exact ⟨h1, h2⟩
  · rw [hn] at hd; cases hd
end Go.Proofs.YtjdgcgpidhljpaaGreatDoor

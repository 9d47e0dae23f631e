/- Stage 7: the program's own putNumber, number. -/
import Derived.Test.YtilikjfjbnabfaaGreatDoorOp7
import Derived.Test.YtilikjfjbnabfaaGreatDoorKept2
namespace Go.Proofs.YtilikjfjbnabfaaGreatDoor
open Go.RowKit

theorem Kept.row_next {w w1 w2 : World} {A A1 : Option Addr} (h : Kept (AtRow A) w w1) (r : RowTo w A A1) (k : Kept (AtRow A1) w1 w2) : Kept (AtRow A) w w2 :=
  h.next k fun i hi ⟨ad, e1, e2⟩ => by
    rcases r with rfl | ⟨g, rfl, hg⟩
    · exact ⟨ad, e1, e2⟩
    · obtain rfl := Option.some.inj e1
      simp only at e2
      omega
theorem RowTo.next {w w1 : World} {A A1 A2 : Option Addr} (r : RowTo w A A1) (hs : w.heap.size ≤ w1.heap.size) (q : RowTo w1 A1 A2) : RowTo w A A2 := by
  rcases q with rfl | ⟨g, rfl, hg⟩
  · exact r
  · exact .inr ⟨g, rfl, by omega⟩
/-- A row of bytes of the call's own. -/
def Row8 (w : World) (B : Nat) (A : Option Addr) (c : Nat) (xs : List Nat) : Prop := Row w B 5 1 A xs.length c (numCells .u8 xs)
theorem Row8.grew {w w' : World} {B : Nat} {A : Option Addr} {c : Nat} {xs : List Nat} (h : Row8 w B A c xs) (hg : Grew w w') : Row8 w' B A c xs := Row.grew h hg
theorem Row8.nil (w : World) (B : Nat) : Row8 w B none 0 [] := Row.nil _ _ _ _
theorem Row8.nums {w : World} {B : Nat} {A : Option Addr} {c : Nat} {xs : List Nat} (h : Row8 w B A c xs) : NumsAt .u8 w w.heap.size A xs := Row.nums h
/-- 'append(out, v)', v a byte that lies in a block of its own. -/
theorem wpList_push8 {ops : Array Oper} {rest : List Oper} {o : Oper} {a : Act} {Q : Exit → Act → World → Prop} (w : World) (hgd : o.guard = none) (s x : Operand)
    (ho : o.op = .call { callee := .builtin .append, args := #[s, x], argTypes := #[22, 22] })
    (B : Nat) (hB : B ≤ w.heap.size) (A : Option Addr) (c : Nat) (ys : List Nat) (hs : a.eval s = .slice A ys.length c) (hown : Row8 w B A c ys) (v H : Nat) (hH : w.heap.size = H) (hxv : a.eval x = .slice (some ⟨H, 0, none⟩) 1 1) (u : Value) (hu : u = .int .u8 ((v : Nat) : Int))
    (hlen : ys.length + 1 ≤ 9223372036854775807) (hby : ys.length + 1 ≤ 140737488355328)
    (h : ∀ A' c' M w', Hid (M = ys ++ [v]) → Row8 w' B A' c' M → Kept (AtRow A) w w' → RowTo w A A' → wpList Tryz.prog ops Q rest (a.put o.dst (.slice A' M.length c')) w') : wpList Tryz.prog ops Q (o :: rest) a (w.alloc (.cells #[u] 5)) := by
  subst hu
  refine wpList_pushR (.int .u8 0) 1 w hgd s x 22 5 ho Tryz.underlying22 op_u8 rfl B hB A ys.length c (numCells .u8 ys) hs hown H hH hxv _ rfl hlen (by rw [Nat.mul_one]; exact hby) fun A' c' w' r1 r2 r3 => ?_
  have := h A' c' (ys ++ [v]) w' rfl (by unfold Row8; rw [List.length_append, numCells_append]; exact r1) r2 r3
  rwa [List.length_append] at this

def OPutPost (w : World) (B : Nat) (A : Option Addr) (xs ys : List Nat) (e : Ending) (w' : World) : Prop :=
  ∃ A' c' L, e = .returned (.slice A' (List.length L) c') ∧ L = xs ++ ys ∧ Row8 w' B A' c' L ∧ Kept (AtRow A) w w' ∧ RowTo w A A'
set_option maxRecDepth 100000 in
set_option maxHeartbeats 2000000 in
theorem oputN_c (A : Option Addr) (c : Nat) (xs : List Nat) (n k B : Nat) (w : World) (hB : B ≤ w.heap.size) (hk : k ≤ 2) (hn : n < 256 ^ k) (h : Row8 w B A c xs) (hl : xs.length ≤ 1000000000000) :
    Calls Tryz.prog 59 #[.slice A xs.length c, .int .i64 (n : Nat), .int .i64 (k : Nat)] w (OPutPost w B A xs (Op7.be n k)) := by
  have H := hid h
  have HB := hid hB
  clear h hB
  rcases (by omega : k = 0 ∨ k = 1 ∨ k = 2) with rfl | rfl | rfl
  · rw [show ((0 : Nat) : Int) = 0 from rfl]
    go_enter Tryz.func59, Tryz.ntmps59
    go_wp2_with fail
    refine wp_loop_rounds 3 ?_
    rw [rounds_succ]
    go_wp2_with fail
    go_ret
    exact ⟨A, c, xs, rfl, by simp [Op7.be], H.out, Kept.refl _ _, .inl rfl⟩
  · have hn : n < 256 := hn
    rw [show ((1 : Nat) : Int) = 1 from rfl]
    go_enter Tryz.func59, Tryz.ntmps59
    go_wp2_with fail
    refine wp_loop_rounds 3 ?_
    rw [rounds_succ]
    go_wp2_with (at_builtin; refine wpList_push8 w rfl _ _ rfl B HB.out A c xs rfl H.out n _ rfl rfl _ rfl (by omega) (by omega) ?_; rintro A2 c2 M W3 hM hO3 hK3 hT3)
    rw [rounds_succ]
    go_wp2_with fail
    go_ret
    exact ⟨A2, c2, M, rfl, by rw [hM.out]; simp only [Op7.be]; rw [Nat.mod_eq_of_lt hn], hO3, hK3, hT3⟩
  · have hn : n < 65536 := hn
    rw [show ((2 : Nat) : Int) = 2 from rfl]
    go_enter Tryz.func59, Tryz.ntmps59
    go_wp2_with fail
    refine wp_loop_rounds 3 ?_
    rw [rounds_succ]
    go_wp2_with (at_builtin; refine wpList_push8 w rfl _ _ rfl B HB.out A c xs rfl H.out (n / 256) _ rfl rfl _ (by first | rfl | exact int_same (by rw [IntKind.wrap_u8']; omega) | exact int_same (by omega)) (by omega) (by omega) ?_; rintro A2 c2 M W3 hM hO3 hK3 hT3)
    rw [rounds_succ]
    go_wp2_with (at_builtin; refine wpList_push8 W3 rfl _ _ rfl B (Nat.le_trans HB.out hK3.size) A2 c2 M rfl hO3 (n % 256) _ rfl rfl _ (by first | rfl | exact int_same (by rw [IntKind.wrap_u8']; omega) | exact int_same (by omega)) (by rw [hM.out]; simp; omega) (by rw [hM.out]; simp; omega) ?_; rintro A4 c4 M4 W5 hM4 hO5 hK5 hT5)
    rw [rounds_succ]
    go_wp2_with fail
    go_ret
    exact ⟨A4, c4, M4, rfl, by rw [hM4.out, hM.out]; simp only [Op7.be]; rw [Nat.mod_eq_of_lt (show n / 256 < 256 by omega)]; simp, hO5, hK3.row_next hT3 hK5, hT3.next hK3.size hT5⟩
end Go.Proofs.YtilikjfjbnabfaaGreatDoor

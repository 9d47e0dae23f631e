/- The document's own answers for law 07: Encode. -/
import Derived.Test.YtilikjfjbnabfaaGreatDoorOp3
import Derived.Test.YtilikjfjbnabfaaGreatDoorKept2
import Derived.Deep.DeepCutAuto
import Derived.Deep.RegionLaw
namespace Go.Proofs.YtilikjfjbnabfaaGreatDoor
open Go.RowKit

def opCells (o : Op7.Ins) : Array Value := #[.int .u8 ((o.code : Nat) : Int), .int .i64 o.a, .int .i64 o.b]
/-- Instructions that lie one behind the other from address 'A' on. -/
def OpsAt (w : World) (B : Nat) (A : Option Addr) (l : List Op7.Ins) : Prop :=
  (∀ o ∈ l, o.code < 256) ∧ (0 < l.length → ∃ ad, A = some ad ∧ ad.block < B ∧ ∀ i o, l[i]? = some o → ∀ j u, (opCells o)[j]? = some u → w.cell? (ad.add (i * 3 + j)) = some u)
theorem op_cell {w : World} {ad : Addr} {i : Nat} {o : Op7.Ins} (h : ∀ j u, (opCells o)[j]? = some u → w.cell? (ad.add (i * 3 + j)) = some u) :
    w.cell? (ad.add (i * 3)) = some (.int .u8 ((o.code : Nat) : Int)) ∧ w.cell? ⟨ad.block, (ad.add (i * 3)).off + 1, none⟩ = some (.int .i64 o.a) ∧ w.cell? ⟨ad.block, (ad.add (i * 3)).off + 2, none⟩ = some (.int .i64 o.b) := by
  have fa : ∀ {a : Addr} {j : Nat}, j ≠ 0 → a.add j = ⟨a.block, a.off + j, none⟩ := fun hj => by simp [Addr.add, hj]
  refine ⟨h 0 (.int .u8 ((o.code : Nat) : Int)) rfl, ?_, ?_⟩
  · have := h 1 _ rfl
    rwa [← add_add, fa (by decide), block_add] at this
  · have := h 2 _ rfl
    rwa [← add_add, fa (by decide), block_add] at this
theorem form_of (c : Nat) (w : World) (hm : c < 256) :
    Calls Tryz.prog 31 #[.int .u8 (c : Nat)] w (fun e w' => e = .returned (.tuple #[.string (formB c), .bool (decide (c < 21))]) ∧ Grew w w') := by
  have h := form_c c w hm
  have e : (if c < 21 then formB c else ⟨#[]⟩) = formB c := by
    split
    · rfl
    · rename_i hc
      have : Op7.wid c = (0, 0) := by
        unfold Op7.wid
        rw [List.getD_eq_getElem?_getD, List.getElem?_eq_none (by simpa [Op7.widths] using hc)]
        rfl
      rw [formB, this]
      rfl
  rwa [e] at h

/-- 'append(out, v)', as a step of a region that draws its order. -/
theorem step_pushM {P : Program} {ops : Array Oper} {o : Oper} {a : Act} {w : World} {K : Act → World → Prop} {Q : Exit → Act → World → Prop} {E : Prop} (k : IntKind) (b : Nat) (w0 : World) (hgd : o.guard = none) (s x : Operand) (t e : TypeId)
    (ho : o.op = .call { callee := .builtin .append, args := #[s, x], argTypes := #[t, t] })
    (ht : P.underlying t = some (.slice e)) (he : (P.info? e).map (fun i => (i.zero, i.size, i.bytes)) = some (some (.int k 0), 1, b))
    (hg : Grew w0 w) (A : Option Addr) (c : Nat) (ys : List Nat) (hs : a.eval s = .slice A ys.length c) (hown : OwnNums k w0 w e A c ys) (v H : Nat) (hxv : a.eval x = .slice (some ⟨H, 0, none⟩) 1 1) (hx : NumsAt k w w.heap.size (some ⟨H, 0, none⟩) [v])
    (hlen : ys.length + 1 ≤ 9223372036854775807) (hby : (ys.length + 1) * b ≤ 140737488355328)
    (h : ∀ A' c' M w', Hid (M = ys ++ [v]) → OwnNums k w0 w' e A' c' M → Grew w0 w' → K (a.put o.dst (.slice A' M.length c')) w') :
    if Region.wanted o (yielded ops a.tmps) = true then Oper.wp P o a w K Q else E := by
  have hw : Region.wanted o (yielded ops a.tmps) = true := by simp [Region.wanted, hgd]
  rw [if_pos hw]
  obtain ⟨A', c', w', hrun, h1, h2⟩ := run_cat (P := P) k t o.type e b ht he w0 w hg A c ys hown _ 1 [v] hx (by simpa using hlen) (by simpa using hby)
  rw [show ([v] : List Nat).length = 1 from rfl] at hrun
  unfold Oper.wp
  simp only [execOp, ho, resolve, invoke, builtin, Sem.run_bind, Sem.run_pure, Result.andThen_ok, List.map_toArray, List.map_cons, List.map_nil, hs, hxv, hrun]
  have := h A' c' (ys ++ [v]) w' rfl h1 h2
  rw [List.length_append] at this
  exact this
def encR (l : List Op7.Ins) : List Nat × Nat := if (∀ o ∈ l, Op7.valid o) then (if 512 < (Op7.encs l).length then ([], 4) else (Op7.encs l, 0)) else ([], 8)
def EncPost (w : World) (r : List Nat × Nat) (e : Ending) (w' : World) : Prop :=
  ∃ A' c' L, e = .returned (.tuple #[.slice A' (List.length L) c', .int .i64 ((r.2 : Nat) : Int)]) ∧ L = r.1 ∧ OwnNums .u8 w w' 5 A' c' L ∧ Grew w w'
end Go.Proofs.YtilikjfjbnabfaaGreatDoor

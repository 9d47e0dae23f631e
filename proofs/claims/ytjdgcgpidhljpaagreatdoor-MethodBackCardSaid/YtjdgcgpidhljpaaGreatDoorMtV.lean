/- Stage 9: what the law's arguments are; bigMethod. -/
import Derived.Test.YtjdgcgpidhljpaaGreatDoorMtS
namespace Go.Proofs.YtjdgcgpidhljpaaGreatDoor
open Go.RowKit

/-- Literals of an argument. -/
def LitsArg (w : World) (A : Option Addr) (l : List Mt.Lit) : Prop :=
  (∀ x ∈ l, x.k < 256) ∧ (0 < l.length → ∃ ad, A = some ad ∧ ad.block < w.heap.size ∧ ∀ i x, l[i]? = some x → ∀ j u, (litCells2 x)[j]? = some u → w.cell? (ad.add (i * 2 + j)) = some u)
theorem LitsArg.grew {w w' : World} {A : Option Addr} {l : List Mt.Lit} (h : LitsArg w A l) (hg : Grew w w') : LitsArg w' A l := ⟨h.1, fun hl => by
  obtain ⟨ad, h1, h2, h3⟩ := h.2 hl
  exact ⟨ad, h1, Nat.lt_of_lt_of_le h2 hg.below.size, fun i x hi j u hu => (hg.below.cell (by rw [block_add]; exact h2)).trans (h3 i x hi j u hu)⟩⟩
/-- Parts of an argument. -/
def PartsArg (w : World) (A : Option Addr) (l : List PV) : Prop :=
  (∀ v ∈ l, BytesAt w w.heap.size v.A v.p.code ∧ v.p.code.length ≤ v.c ∧ v.c ≤ 9223372036854775807) ∧ (0 < l.length → ∃ ad, A = some ad ∧ ad.block < w.heap.size ∧ ∀ i v, l[i]? = some v → ∀ j u, (pvCells v)[j]? = some u → w.cell? (ad.add (i * 4 + j)) = some u)
theorem PartsArg.grew {w w' : World} {A : Option Addr} {l : List PV} (h : PartsArg w A l) (hg : Grew w w') : PartsArg w' A l := ⟨fun v hv => ⟨(h.1 v hv).1.grew hg, (h.1 v hv).2⟩, fun hl => by
  obtain ⟨ad, h1, h2, h3⟩ := h.2 hl
  exact ⟨ad, h1, Nat.lt_of_lt_of_le h2 hg.below.size, fun i x hi j u hu => (hg.below.cell (by rw [block_add]; exact h2)).trans (h3 i x hi j u hu)⟩⟩
/-- A method that is an argument: no bounds. -/
structure MethArg (w : World) (v : MV) : Prop where
  lits : LitsArg w v.A1 v.lits
  parts : PartsArg w v.A2 v.vs
theorem MethArg.grew {w w' : World} {v : MV} (h : MethArg w v) (hg : Grew w w') : MethArg w' v := ⟨h.lits.grew hg, h.parts.grew hg⟩
/-- It has too much. -/
def BigP (v : MV) : Prop := 1100 < v.sel.size ∨ 70 < v.lits.length ∨ 70 < v.vs.length ∨ (∃ x ∈ v.lits, 1100 < x.s.size) ∨ (∃ q ∈ v.vs, 600 < q.p.code.length)
theorem MethArg.fit {w : World} {v : MV} (h : MethArg w v) (hb : ¬ BigP v) : MethAt w v := by
  unfold BigP at hb
  refine ⟨by omega, ⟨fun x hx => ⟨h.lits.1 x hx, ?_⟩, h.lits.2⟩, by omega, ⟨fun q hq => ⟨(h.parts.1 q hq).1, (h.parts.1 q hq).2.1, (h.parts.1 q hq).2.2, ?_⟩, h.parts.2⟩, by omega⟩
  · have : ¬ 1100 < x.s.size := fun hc => hb (.inr (.inr (.inr (.inl ⟨x, hx, hc⟩))))
    omega
  · have : ¬ 600 < q.p.code.length := fun hc => hb (.inr (.inr (.inr (.inr ⟨q, hq, hc⟩))))
    omega
theorem argLit_at {w wr : World} {A : Option Addr} {l : List Mt.Lit} (h : LitsArg w A l) (hg : Grew w wr) {i : Nat} (hi : i < l.length) : ∃ ad x, A = some ad ∧ l[i]? = some x ∧ wr.cell? (ad.add (i * 2)) = some (.int .u8 ((x.k : Nat) : Int)) ∧ wr.cell? ⟨ad.block, (ad.add (i * 2)).off + 1, none⟩ = some (.string x.s) ∧ ad.block < wr.heap.size := by
  obtain ⟨ad, e, hb, hc⟩ := h.2 (by omega)
  have hv := List.getElem?_eq_getElem hi
  obtain ⟨q0, q1⟩ := lit_cell (x := l[i]) (i := i) (ad := ad) (w := wr) (fun j u hu => by
    rw [hg.below.cell (by rw [block_add]; exact hb)]; exact hc i _ hv j u hu)
  exact ⟨ad, l[i], e, hv, q0, q1, Nat.lt_of_lt_of_le hb hg.below.size⟩
theorem argPart_at {w wr : World} {A : Option Addr} {l : List PV} (h : PartsArg w A l) (hg : Grew w wr) {i : Nat} (hi : i < l.length) : ∃ ad v, A = some ad ∧ l[i]? = some v ∧ wr.cell? (ad.add (i * 4)) = some (.int .i64 v.p.outer) ∧ wr.cell? ⟨ad.block, (ad.add (i * 4)).off + 1, none⟩ = some (.int .i64 v.p.args) ∧ wr.cell? ⟨ad.block, (ad.add (i * 4)).off + 2, none⟩ = some (.int .i64 v.p.temps) ∧ wr.cell? ⟨ad.block, (ad.add (i * 4)).off + 3, none⟩ = some (.slice v.A v.p.code.length v.c) ∧ ad.block < wr.heap.size := by
  obtain ⟨ad, e, hb, hc⟩ := h.2 (by omega)
  have hv := List.getElem?_eq_getElem hi
  obtain ⟨q0, q1, q2, q3⟩ := pv_cell (v := l[i]) (i := i) (ad := ad) (w := wr) (fun j u hu => by
    rw [hg.below.cell (by rw [block_add]; exact hb)]; exact hc i _ hv j u hu)
  exact ⟨ad, l[i], e, hv, q0, q1, q2, q3, Nat.lt_of_lt_of_le hb hg.below.size⟩
set_option maxRecDepth 100000 in
set_option maxHeartbeats 2000000 in
theorem bigMethod_c (v : MV) (b : Bool) (hb : b = true ↔ BigP v) (w : World) (h : MethArg w v) :
    Calls Tryz.prog 7 #[.agg (mvCells v)] w fun e w' => e = .returned (.bool b) ∧ Grew w w' := by
  obtain ⟨sel, lits, A1, c1, vs, A2, c2⟩ := v
  obtain ⟨n, en⟩ : ∃ n, n = lits.length := ⟨_, rfl⟩
  obtain ⟨m, em⟩ : ∃ m, m = vs.length := ⟨_, rfl⟩
  have HA := hid h.lits
  have HP := hid h.parts
  have HB := hid hb
  have hg0 : Grew w (w.alloc (.cells (mvCells ⟨sel, lits, A1, c1, vs, A2, c2⟩) 25)) := (Grew.refl w).alloc _
  have hb0 := Blk.new w 25 (mvCells ⟨sel, lits, A1, c1, vs, A2, c2⟩)
  unfold BigP at HB
  unfold mvCells at hg0 hb0 ⊢
  simp only at HA HP HB hg0 hb0 ⊢
  rw [← en, ← em] at hg0 hb0 ⊢
  rw [← en, ← em] at HB
  have EN := hid en
  have EM := hid em
  have HG0 := hid hg0
  have HB0 := hid hb0
  clear h hb en em hg0 hb0
  obtain ⟨sz, es⟩ : ∃ sz, sz = sel.size := ⟨_, rfl⟩
  by_cases h1 : 1100 < sel.size
  · obtain rfl : b = true := HB.out.2 (.inl h1)
    have f1 : (1100 : Int) < sel.size := by omega
    clear h1
    go_enter Tryz.func7, Tryz.ntmps7
    go_wp2_with fail
    go_ret
    exact ⟨rfl, HG0.out⟩
  · have f1 : ¬ (1100 : Int) < sel.size := by omega
    have HS := hid h1
    clear h1
    by_cases h2 : 70 < n
    · obtain rfl : b = true := HB.out.2 (.inr (.inl h2))
      have f2 : (70 : Int) < n := by omega
      clear h2
      go_enter Tryz.func7, Tryz.ntmps7
      go_wp2_with fail
      go_ret
      exact ⟨rfl, HG0.out⟩
    · have f2 : ¬ (70 : Int) < n := by omega
      by_cases h3 : 70 < m
      · obtain rfl : b = true := HB.out.2 (.inr (.inr (.inl h3)))
        have f3 : (70 : Int) < m := by omega
        clear h3
        go_enter Tryz.func7, Tryz.ntmps7
        go_wp2_with fail
        go_ret
        exact ⟨rfl, HG0.out⟩
      · have f3 : ¬ (70 : Int) < m := by omega
        go_enter Tryz.func7, Tryz.ntmps7
        go_wp2_with fail
        generalize w.alloc (.cells #[.string sel, .slice A1 n c1, .slice A2 m c2] 25) = w1 at *
        generalize w.heap.size = g at *
        clear f1 f2 f3
        go_loopw [3] (fun s3 wr => ∃ i : Nat, s3 = .int .i64 ((i : Nat) : Int) ∧ i ≤ n ∧ wr = w1 ∧ Hid (∀ x ∈ lits.take i, ¬ 1100 < x.s.size)) (fun s3 _ => n - (intOf s3).toNat)
        case atStart => exact ⟨0, rfl, Nat.zero_le _, rfl, hid (by simp)⟩
        case round =>
          obtain ⟨i, rfl, hi, rfl, HI⟩ := hrel
          have m1 := HB0.out.cell 1
          have m2 := HB0.out.cell 2
          simp only [List.getElem?_toArray, List.getElem?_cons_zero, List.getElem?_cons_succ] at m1 m2
          by_cases hlt : i < n
          · have f1 : (i : Int) < n := by omega
            obtain ⟨ad, x, rfl, hx, q0, q1, _⟩ := argLit_at HA.out HG0.out (i := i) (by rw [← EN.out]; exact hlt)
            have HX : Hid (1100 < x.s.size → b = true) := hid (fun hf => HB.out.2 (.inr (.inr (.inr (.inl ⟨x, List.mem_of_getElem? hx, hf⟩)))))
            have HY : Hid (¬ 1100 < x.s.size → ∀ x ∈ lits.take (i + 1), ¬ 1100 < x.s.size) := hid (fun hf y hy => by
              rw [List.take_add_one, hx] at hy
              rcases List.mem_append.1 hy with hy | hy
              · exact HI.out y hy
              · obtain rfl : y = x := by simpa using hy
                exact hf)
            clear hx
            obtain ⟨k, s⟩ := x
            simp only at q0 q1 HX HY
            by_cases hs : 1100 < s.size
            · obtain rfl : b = true := HX.out hs
              have f4 : (1100 : Int) < s.size := by omega
              clear hs
              go_wp2_with fail
              go_ret
              exact ⟨rfl, HG0.out⟩
            · have f4 : ¬ (1100 : Int) < s.size := by omega
              have HY2 := hid (HY.out hs)
              clear hs
              go_wp2_with fail
              go_round
              case rel => exact ⟨i + 1, by go_num, by omega, by trivial, HY2⟩
              case measure => simp [intOf]; omega
          · have hin : i = n := by omega
            subst hin
            have HL : Hid (∀ x ∈ lits, ¬ 1100 < x.s.size) := hid (by
              have := HI.out
              rwa [EN.out, List.take_length] at this)
            clear HI
            go_wp2_with fail
            clear m1 m2
            go_loopw [4] (fun s4 wr' => ∃ j : Nat, s4 = .int .i64 ((j : Nat) : Int) ∧ j ≤ m ∧ wr' = wr ∧ Hid (∀ q ∈ vs.take j, ¬ 600 < q.p.code.length)) (fun s4 _ => m - (intOf s4).toNat)
            case atStart => exact ⟨0, rfl, Nat.zero_le _, rfl, hid (by simp)⟩
            case round =>
              obtain ⟨j, rfl, hj, rfl, HJ⟩ := hrel
              have m1 := HB0.out.cell 1
              have m2 := HB0.out.cell 2
              simp only [List.getElem?_toArray, List.getElem?_cons_zero, List.getElem?_cons_succ] at m1 m2
              by_cases hlt : j < m
              · have f1 : (j : Int) < m := by omega
                obtain ⟨ad, v, rfl, hv, q0, q1, q2, q3, _⟩ := argPart_at HP.out HG0.out (i := j) (by rw [← EM.out]; exact hlt)
                have HX : Hid (600 < v.p.code.length → b = true) := hid (fun hf => HB.out.2 (.inr (.inr (.inr (.inr ⟨v, List.mem_of_getElem? hv, hf⟩)))))
                have HY : Hid (¬ 600 < v.p.code.length → ∀ q ∈ vs.take (j + 1), ¬ 600 < q.p.code.length) := hid (fun hf y hy => by
                  rw [List.take_add_one, hv] at hy
                  rcases List.mem_append.1 hy with hy | hy
                  · exact HJ.out y hy
                  · obtain rfl : y = v := by simpa using hy
                    exact hf)
                clear hv
                obtain ⟨⟨po, pa, pt, code⟩, Ac, cc⟩ := v
                simp only at q0 q1 q2 q3 HX HY
                generalize code.length = cl at *
                by_cases hs : 600 < cl
                · obtain rfl : b = true := HX.out hs
                  have f4 : (600 : Int) < cl := by omega
                  clear hs
                  go_wp2_with fail
                  go_ret
                  exact ⟨rfl, HG0.out⟩
                · have f4 : ¬ (600 : Int) < cl := by omega
                  have HY2 := hid (HY.out hs)
                  clear hs
                  go_wp2_with fail
                  go_round
                  case rel => exact ⟨j + 1, by go_num, by omega, by trivial, HY2⟩
                  case measure => simp [intOf]; omega
              · have hjm : j = m := by omega
                subst hjm
                have HQ : Hid (∀ q ∈ vs, ¬ 600 < q.p.code.length) := hid (by
                  have := HJ.out
                  rwa [EM.out, List.take_length] at this)
                clear HJ
                have hbf : b = false := by
                  cases hbb : b
                  · rfl
                  · rcases HB.out.1 hbb with h | h | h | ⟨x, hx, h⟩ | ⟨q, hq, h⟩
                    · exact absurd h HS.out
                    · omega
                    · omega
                    · exact absurd h (HL.out x hx)
                    · exact absurd h (HQ.out q hq)
                subst hbf
                go_wp2_with fail
                go_ret
                exact ⟨rfl, HG0.out⟩
end Go.Proofs.YtjdgcgpidhljpaaGreatDoor

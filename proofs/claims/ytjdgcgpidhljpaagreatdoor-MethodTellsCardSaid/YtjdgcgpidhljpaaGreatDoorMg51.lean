/- Texts of this claim in one: MtV MtW MtX MuG MuH MuI Facts5 MuJ MtZ. -/
import Derived.Test.YtjdgcgpidhljpaaGreatDoorMg39
import Derived.Test.YtjdgcgpidhljpaaGreatDoorMuE
import Derived.Test.YtjdgcgpidhljpaaGreatDoorYPkR
import Derived.Test.YtjdgcgpidhljpaaGreatDoorMtE
import Derived.Test.YtjdgcgpidhljpaaGreatDoorYOpB
section
/- Stage 9: what the law's arguments are; bigMethod. -/
namespace Go.Proofs.YtjdgcgpidhljpaaGreatDoor
open Go.RowKit

/-- Literals of an argument. -/
def LitsArg (w : World) (A : Option Addr) (l : List Mt.Lit) : Prop :=
  (∀ x ∈ l, x.k < 256) ∧ (0 < l.length → ∃ ad, A = some ad ∧ ad.block < w.heap.size ∧ ∀ i x, l[i]? = some x → ∀ j u, (litCells2 x)[j]? = some u → w.cell? (ad.add (i * 2 + j)) = some u)
theorem LitsArg.grew {w w' : World} {A : Option Addr} {l : List Mt.Lit} (h : LitsArg w A l) (hg : Grew w w') : LitsArg w' A l := ⟨h.1, fun hl => by
  obtain ⟨ad, h1, h2, h3⟩ := h.2 hl
  exact ⟨ad, h1, Nat.lt_of_lt_of_le h2 hg.below.size, fun i x hi j u hu => (hg.below.cell (by rw [block_add]; exact h2)).trans (h3 i x hi j u hu)⟩⟩
/-- Parts of an argument. -/
def PartsArg (w : World) (A : Option Addr) (l : List PV) : Prop :=
  (∀ v ∈ l, BytesAt w w.heap.size v.A v.p.code ∧ v.p.code.length ≤ v.c ∧ v.c ≤ 9223372036854775807) ∧ (0 < l.length → ∃ ad, A = some ad ∧ ad.block < w.heap.size ∧ ∀ i v, l[i]? = some v → ∀ j u, (pvCells v)[j]? = some u → w.cell? (ad.add (i * 4 + j)) = some u)
theorem PartsArg.grew {w w' : World} {A : Option Addr} {l : List PV} (h : PartsArg w A l) (hg : Grew w w') : PartsArg w' A l := ⟨fun v hv => ⟨(h.1 v hv).1.grew hg, (h.1 v hv).2⟩, fun hl => by
  obtain ⟨ad, h1, h2, h3⟩ := h.2 hl
  exact ⟨ad, h1, Nat.lt_of_lt_of_le h2 hg.below.size, fun i x hi j u hu => (hg.below.cell (by rw [block_add]; exact h2)).trans (h3 i x hi j u hu)⟩⟩
/-- A method that is an argument: no bounds. -/
structure MethArg (w : World) (v : MV) : Prop where
  lits : LitsArg w v.A1 v.lits
  parts : PartsArg w v.A2 v.vs
theorem MethArg.grew {w w' : World} {v : MV} (h : MethArg w v) (hg : Grew w w') : MethArg w' v := ⟨h.lits.grew hg, h.parts.grew hg⟩
/-- It has too much. -/
def BigP (v : MV) : Prop := 1100 < v.sel.size ∨ 70 < v.lits.length ∨ 70 < v.vs.length ∨ (∃ x ∈ v.lits, 1100 < x.s.size) ∨ (∃ q ∈ v.vs, 600 < q.p.code.length)
theorem MethArg.fit {w : World} {v : MV} (h : MethArg w v) (hb : ¬ BigP v) : MethAt w v := by
  unfold BigP at hb
  refine ⟨by omega, ⟨fun x hx => ⟨h.lits.1 x hx, ?_⟩, h.lits.2⟩, by omega, ⟨fun q hq => ⟨(h.parts.1 q hq).1, (h.parts.1 q hq).2.1, (h.parts.1 q hq).2.2, ?_⟩, h.parts.2⟩, by omega⟩
  · have : ¬ 1100 < x.s.size := fun hc => hb (.inr (.inr (.inr (.inl ⟨x, hx, hc⟩))))
    omega
  · have : ¬ 600 < q.p.code.length := fun hc => hb (.inr (.inr (.inr (.inr ⟨q, hq, hc⟩))))
    omega
theorem argLit_at {w wr : World} {A : Option Addr} {l : List Mt.Lit} (h : LitsArg w A l) (hg : Grew w wr) {i : Nat} (hi : i < l.length) : ∃ ad x, A = some ad ∧ l[i]? = some x ∧ wr.cell? (ad.add (i * 2)) = some (.int .u8 ((x.k : Nat) : Int)) ∧ wr.cell? ⟨ad.block, (ad.add (i * 2)).off + 1, none⟩ = some (.string x.s) ∧ ad.block < wr.heap.size := by
  obtain ⟨ad, e, hb, hc⟩ := h.2 (by omega)
  have hv := List.getElem?_eq_getElem hi
  obtain ⟨q0, q1⟩ := lit_cell (x := l[i]) (i := i) (ad := ad) (w := wr) (fun j u hu => by
    rw [hg.below.cell (by rw [block_add]; exact hb)]; exact hc i _ hv j u hu)
  exact ⟨ad, l[i], e, hv, q0, q1, Nat.lt_of_lt_of_le hb hg.below.size⟩
theorem argPart_at {w wr : World} {A : Option Addr} {l : List PV} (h : PartsArg w A l) (hg : Grew w wr) {i : Nat} (hi : i < l.length) : ∃ ad v, A = some ad ∧ l[i]? = some v ∧ wr.cell? (ad.add (i * 4)) = some (.int .i64 v.p.outer) ∧ wr.cell? ⟨ad.block, (ad.add (i * 4)).off + 1, none⟩ = some (.int .i64 v.p.args) ∧ wr.cell? ⟨ad.block, (ad.add (i * 4)).off + 2, none⟩ = some (.int .i64 v.p.temps) ∧ wr.cell? ⟨ad.block, (ad.add (i * 4)).off + 3, none⟩ = some (.slice v.A v.p.code.length v.c) ∧ ad.block < wr.heap.size := by
  obtain ⟨ad, e, hb, hc⟩ := h.2 (by omega)
  have hv := List.getElem?_eq_getElem hi
  obtain ⟨q0, q1, q2, q3⟩ := pv_cell (v := l[i]) (i := i) (ad := ad) (w := wr) (fun j u hu => by
    rw [hg.below.cell (by rw [block_add]; exact hb)]; exact hc i _ hv j u hu)
  exact ⟨ad, l[i], e, hv, q0, q1, q2, q3, Nat.lt_of_lt_of_le hb hg.below.size⟩
set_option maxRecDepth 100000 in
set_option maxHeartbeats 2000000 in
theorem bigMethod_c (v : MV) (b : Bool) (hb : b = true ↔ BigP v) (w : World) (h : MethArg w v) :
    Calls Tryz.prog 7 #[.agg (mvCells v)] w fun e w' => e = .returned (.bool b) ∧ Grew w w' := by
  obtain ⟨sel, lits, A1, c1, vs, A2, c2⟩ := v
  obtain ⟨n, en⟩ : ∃ n, n = lits.length := ⟨_, rfl⟩
  obtain ⟨m, em⟩ : ∃ m, m = vs.length := ⟨_, rfl⟩
  have HA := hid h.lits
  have HP := hid h.parts
  have HB := hid hb
  have hg0 : Grew w (w.alloc (.cells (mvCells ⟨sel, lits, A1, c1, vs, A2, c2⟩) 25)) := (Grew.refl w).alloc _
  have hb0 := Blk.new w 25 (mvCells ⟨sel, lits, A1, c1, vs, A2, c2⟩)
  unfold BigP at HB
  unfold mvCells at hg0 hb0 ⊢
  simp only at HA HP HB hg0 hb0 ⊢
  rw [← en, ← em] at hg0 hb0 ⊢
  rw [← en, ← em] at HB
  have EN := hid en
  have EM := hid em
  have HG0 := hid hg0
  have HB0 := hid hb0
  clear h hb en em hg0 hb0
  obtain ⟨sz, es⟩ : ∃ sz, sz = sel.size := ⟨_, rfl⟩
  by_cases h1 : 1100 < sel.size
  · obtain rfl : b = true := HB.out.2 (.inl h1)
    have f1 : (1100 : Int) < sel.size := by omega
    clear h1
    go_enter Tryz.func7, Tryz.ntmps7
    go_wp2_with fail
    go_ret
    exact ⟨rfl, HG0.out⟩
  · have f1 : ¬ (1100 : Int) < sel.size := by omega
    have HS := hid h1
    clear h1
    by_cases h2 : 70 < n
    · obtain rfl : b = true := HB.out.2 (.inr (.inl h2))
      have f2 : (70 : Int) < n := by omega
      clear h2
      go_enter Tryz.func7, Tryz.ntmps7
      go_wp2_with fail
      go_ret
      exact ⟨rfl, HG0.out⟩
    · have f2 : ¬ (70 : Int) < n := by omega
      by_cases h3 : 70 < m
      · obtain rfl : b = true := HB.out.2 (.inr (.inr (.inl h3)))
        have f3 : (70 : Int) < m := by omega
        clear h3
        go_enter Tryz.func7, Tryz.ntmps7
        go_wp2_with fail
        go_ret
        exact ⟨rfl, HG0.out⟩
      · have f3 : ¬ (70 : Int) < m := by omega
        go_enter Tryz.func7, Tryz.ntmps7
        go_wp2_with fail
        generalize w.alloc (.cells #[.string sel, .slice A1 n c1, .slice A2 m c2] 25) = w1 at *
        generalize w.heap.size = g at *
        clear f1 f2 f3
        go_loopw [3] (fun s3 wr => ∃ i : Nat, s3 = .int .i64 ((i : Nat) : Int) ∧ i ≤ n ∧ wr = w1 ∧ Hid (∀ x ∈ lits.take i, ¬ 1100 < x.s.size)) (fun s3 _ => n - (intOf s3).toNat)
        case atStart => exact ⟨0, rfl, Nat.zero_le _, rfl, hid (by simp)⟩
        case round =>
          obtain ⟨i, rfl, hi, rfl, HI⟩ := hrel
          have m1 := HB0.out.cell 1
          have m2 := HB0.out.cell 2
          simp only [List.getElem?_toArray, List.getElem?_cons_zero, List.getElem?_cons_succ] at m1 m2
          by_cases hlt : i < n
          · have f1 : (i : Int) < n := by omega
            obtain ⟨ad, x, rfl, hx, q0, q1, _⟩ := argLit_at HA.out HG0.out (i := i) (by rw [← EN.out]; exact hlt)
            have HX : Hid (1100 < x.s.size → b = true) := hid (fun hf => HB.out.2 (.inr (.inr (.inr (.inl ⟨x, List.mem_of_getElem? hx, hf⟩)))))
            have HY : Hid (¬ 1100 < x.s.size → ∀ x ∈ lits.take (i + 1), ¬ 1100 < x.s.size) := hid (fun hf y hy => by
              rw [List.take_add_one, hx] at hy
              rcases List.mem_append.1 hy with hy | hy
              · exact HI.out y hy
              · obtain rfl : y = x := by simpa using hy
                exact hf)
            clear hx
            obtain ⟨k, s⟩ := x
            simp only at q0 q1 HX HY
            by_cases hs : 1100 < s.size
            · obtain rfl : b = true := HX.out hs
              have f4 : (1100 : Int) < s.size := by omega
              clear hs
              go_wp2_with fail
              go_ret
              exact ⟨rfl, HG0.out⟩
            · have f4 : ¬ (1100 : Int) < s.size := by omega
              have HY2 := hid (HY.out hs)
              clear hs
              go_wp2_with fail
              go_round
              case rel => exact ⟨i + 1, by go_num, by omega, by trivial, HY2⟩
              case measure => simp [intOf]; omega
          · have hin : i = n := by omega
            subst hin
            have HL : Hid (∀ x ∈ lits, ¬ 1100 < x.s.size) := hid (by
              have := HI.out
              rwa [EN.out, List.take_length] at this)
            clear HI
            go_wp2_with fail
            clear m1 m2
            go_loopw [4] (fun s4 wr' => ∃ j : Nat, s4 = .int .i64 ((j : Nat) : Int) ∧ j ≤ m ∧ wr' = wr ∧ Hid (∀ q ∈ vs.take j, ¬ 600 < q.p.code.length)) (fun s4 _ => m - (intOf s4).toNat)
            case atStart => exact ⟨0, rfl, Nat.zero_le _, rfl, hid (by simp)⟩
            case round =>
              obtain ⟨j, rfl, hj, rfl, HJ⟩ := hrel
              have m1 := HB0.out.cell 1
              have m2 := HB0.out.cell 2
              simp only [List.getElem?_toArray, List.getElem?_cons_zero, List.getElem?_cons_succ] at m1 m2
              by_cases hlt : j < m
              · have f1 : (j : Int) < m := by omega
                obtain ⟨ad, v, rfl, hv, q0, q1, q2, q3, _⟩ := argPart_at HP.out HG0.out (i := j) (by rw [← EM.out]; exact hlt)
                have HX : Hid (600 < v.p.code.length → b = true) := hid (fun hf => HB.out.2 (.inr (.inr (.inr (.inr ⟨v, List.mem_of_getElem? hv, hf⟩)))))
                have HY : Hid (¬ 600 < v.p.code.length → ∀ q ∈ vs.take (j + 1), ¬ 600 < q.p.code.length) := hid (fun hf y hy => by
                  rw [List.take_add_one, hv] at hy
                  rcases List.mem_append.1 hy with hy | hy
                  · exact HJ.out y hy
                  · obtain rfl : y = v := by simpa using hy
                    exact hf)
                clear hv
                obtain ⟨⟨po, pa, pt, code⟩, Ac, cc⟩ := v
                simp only at q0 q1 q2 q3 HX HY
                generalize code.length = cl at *
                by_cases hs : 600 < cl
                · obtain rfl : b = true := HX.out hs
                  have f4 : (600 : Int) < cl := by omega
                  clear hs
                  go_wp2_with fail
                  go_ret
                  exact ⟨rfl, HG0.out⟩
                · have f4 : ¬ (600 : Int) < cl := by omega
                  have HY2 := hid (HY.out hs)
                  clear hs
                  go_wp2_with fail
                  go_round
                  case rel => exact ⟨j + 1, by go_num, by omega, by trivial, HY2⟩
                  case measure => simp [intOf]; omega
              · have hjm : j = m := by omega
                subst hjm
                have HQ : Hid (∀ q ∈ vs, ¬ 600 < q.p.code.length) := hid (by
                  have := HJ.out
                  rwa [EM.out, List.take_length] at this)
                clear HJ
                have hbf : b = false := by
                  cases hbb : b
                  · rfl
                  · rcases HB.out.1 hbb with h | h | h | ⟨x, hx, h⟩ | ⟨q, hq, h⟩
                    · exact absurd h HS.out
                    · omega
                    · omega
                    · exact absurd h (HL.out x hx)
                    · exact absurd h (HQ.out q hq)
                subst hbf
                go_wp2_with fail
                go_ret
                exact ⟨rfl, HG0.out⟩
end Go.Proofs.YtjdgcgpidhljpaaGreatDoor
end

section
/- Stage 9: what a drawn region may do that copies an element and appends it to a field of a struct; an append to an empty list. -/
namespace Go.Proofs.YtjdgcgpidhljpaaGreatDoor
open Go.RowKit

/-- 'append([]uint8{}, xs...)' where the empty list lies anywhere. -/
theorem run_catE {P : Program} (t ty e : TypeId) (ht : P.underlying t = some (.slice e)) (he : (P.info? e).map (fun i => (i.zero, i.size, i.bytes)) = some (some (.int .u8 0), 1, 1))
    (w : World) (H : Nat) (hH : Blk w H e #[]) (A : Option Addr) (c : Nat) (xs : List Nat) (hb : BytesAt w w.heap.size A xs) (hlen : (xs.length : Int) ≤ 140737488355328) :
    ∃ A' c' w', (Builtin.append_ #[t, t] ty #[.slice (some ⟨H, 0, none⟩) 0 0, .slice A xs.length c]).run P w = .ok (.slice A' xs.length c') w' ∧ BytesAt w' w'.heap.size A' xs ∧ xs.length ≤ c' ∧ c' ≤ 9223372036854775807 ∧ Grew w w' ∧ ∀ ad, A' = some ad → (ad.block = H ∨ w.heap.size ≤ ad.block) ∧ ad.block < w'.heap.size := by
  obtain ⟨i, hi, hz0, hz1, hz2⟩ := info_parts he
  have hrow : Row w H e 1 (some ⟨H, 0, none⟩) 0 0 [] := Row.of_blk hH (Nat.le_refl _) rfl (by decide)
  have hlt := hH.lt
  rcases Nat.eq_zero_or_pos xs.length with h0 | h0
  · obtain rfl := List.eq_nil_of_length_eq_zero h0
    refine ⟨some ⟨H, 0, none⟩, 0, w, ?_, BytesAt.nil _ _ _, Nat.le_refl _, by decide, Grew.refl _, fun ad e => ?_⟩
    · cases A with
      | none => simp [Builtin.append_, run_underlying ht, sizeOf, typeInfo, hi, Builtin.lenOf, Builtin.firstCells, storeCells]
      | some ad => simp [Builtin.append_, run_underlying ht, sizeOf, typeInfo, hi, Builtin.lenOf, Builtin.firstCells, storeCells, loadCells, loadCellsFrom]
    · cases e
      exact ⟨.inl rfl, hlt⟩
  · obtain ⟨ad, rfl, hbk, hc⟩ := hb.2 h0
    have hx : ∀ j u, (numCells .u8 xs)[j]? = some u → w.cell? (ad.add j) = some u := fun j u hu => by
      have hj : j < xs.length := by
        have := (List.getElem?_eq_some_iff.1 hu).1
        simpa [numCells] using this
      rw [hc j hj, ← numCells_get .u8 xs j hj]
      exact hu
    obtain ⟨A', c', w', hrun, r1, r2, r3⟩ := run_catR (P := P) t ty e (.int .u8 0) 1 1 ht he rfl (by decide) w H (Nat.le_of_lt hlt) (some ⟨H, 0, none⟩) 0 0 [] hrow (some ad) xs.length c (numCells .u8 xs) (by rw [numCells_length]; omega) (numCells_one _ _) (fun h => by cases h) (fun ad' e j u hu => by cases e; exact hx j u hu) (by omega) (by omega)
    have hrun2 := run_append_grow (P := P) (w := w) t ty e i (.int .u8 0) ht hi hz0 ⟨H, 0, none⟩ 0 0 [] (by simp) (by simp) ad xs.length c (numCells .u8 xs) (by rw [numCells_length, hz1]; omega) hx (by omega) (by omega) (by rw [hz2]; exact growslice_fits (by omega) (by omega))
    rw [hrun] at hrun2
    simp only [Result.ok.injEq] at hrun2
    obtain ⟨_, hw⟩ := hrun2
    rw [Nat.zero_add] at hrun r1
    rw [List.nil_append] at r1
    refine ⟨A', c', w', hrun, ⟨hb.1, fun hl => ?_⟩, r1.cases.2.1, r1.cases.2.2.1, by rw [hw]; exact (Grew.refl w).drew.alloc _, fun ad' e => ?_⟩
    · exact (Row.nums r1) hl
    · have hlt' := Row.at_lt r1 ad'.block ⟨ad', e, rfl⟩
      refine ⟨?_, hlt'⟩
      rcases r3 with r3 | ⟨g, e1, e2⟩
      · rw [r3] at e; cases e; exact .inl rfl
      · rw [e1] at e; cases e; exact .inr e2
section
variable {α : Type}
/-- What each operation gives. -/
def GF (w0 : World) (M k G : Nat) (A : Option Addr) (i c : Nat) (S : Option Addr) (n cs : Nat) (ad : Addr) (s : Nat) (e : TypeId) (ys : List Value) (enc : α → List Value) (x : α) (j : Nat) (v : Value) (w : World) : Prop := match j with
  | 0 => v = .pointer (some ⟨M, k, none⟩)
  | 1 => v = .slice A i c
  | 2 => v = .pointer (some ⟨G, k, none⟩)
  | 3 => v = .slice S n cs
  | 4 => v = .int .i64 ((i : Nat) : Int)
  | 5 => v = .pointer (some (ad.add (i * s)))
  | 6 => v = .agg (enc x).toArray
  | 7 => ∃ H, v = .slice (some ⟨H, 0, none⟩) 1 1 ∧ Blk w H e (enc x).toArray ∧ M < H ∧ ¬ AtRow A H
  | 8 => ∃ A' c', v = .slice A' (i + 1) c' ∧ Row w (M + 1) e s A' (i + 1) c' (ys ++ enc x) ∧ RowTo w0 A A'
  | _ => v = .pointer (some ⟨M, k, none⟩)
/-- Only the operation 'q' changes the row. -/
def GR (q : Nat) (A : Option Addr) (j : Nat) : World → World → Prop := if j = q then Kept (AtRow A) else Kept (fun _ => False)
def GJ (q M : Nat) (A : Option Addr) (i c : Nat) (e : TypeId) (s : Nat) (ys : List Value) (tM : TypeId) (bx : Array Value) (f : Nat → Bool) (w : World) : Prop :=
  (f q = false → Row w (M + 1) e s A i c ys) ∧ Blk w M tM bx
theorem GR.zero {q : Nat} {A : Option Addr} (j : Nat) (w w' : World) (h : GR q A j w w') : Kept (AtRow A) w w' := by
  unfold GR at h
  split at h
  · exact h
  · exact h.mono (fun _ _ h => h.elim)
theorem GR.refl {q : Nat} {A : Option Addr} (j : Nat) (w : World) : GR q A j w w := by
  unfold GR
  split <;> exact Kept.refl _ _
theorem GR.grew {q : Nat} {A : Option Addr} {j : Nat} {w w' : World} (h : Grew w w') : GR q A j w w' := by
  unfold GR
  split <;> exact Kept.of_grew h
theorem GF.stable {w0 : World} {M k G : Nat} {A : Option Addr} {i c : Nat} {S : Option Addr} {n cs : Nat} {ad : Addr} {s : Nat} {e : TypeId} {ys : List Value} {enc : α → List Value} {x : α}
    (a b : Nat) (v : Value) (w w' : World) (hab : a ≠ b) (h : GF w0 M k G A i c S n cs ad s e ys enc x a v w) (hr : GR 8 A b w w') : GF w0 M k G A i c S n cs ad s e ys enc x a v w' := by
  have h0 := GR.zero b w w' hr
  unfold GF at h ⊢
  split at h
  · exact h
  · exact h
  · exact h
  · exact h
  · exact h
  · exact h
  · exact h
  · obtain ⟨H, h2, h3, h4, h5⟩ := h
    exact ⟨H, h2, h3.kept h0 h5, h4, h5⟩
  · obtain ⟨A', c', h2, h3, h4⟩ := h
    refine ⟨A', c', h2, ?_, h4⟩
    unfold GR at hr
    rw [if_neg (fun e => hab e.symm)] at hr
    exact h3.kept hr (fun q hq e => e)
  · exact h
theorem GJ.pure {q M : Nat} {A : Option Addr} {i c : Nat} {e : TypeId} {s : Nat} {ys : List Value} {tM : TypeId} {bx : Array Value} {f : Nat → Bool} {w : World} (h : GJ q M A i c e s ys tM bx f w) (j : Nat) : GJ q M A i c e s ys tM bx (updF f j) w := by
  refine ⟨fun h5 => h.1 ?_, h.2⟩
  unfold updF at h5
  split at h5
  · cases h5
  · exact h5
theorem GJ.grew {q M : Nat} {A : Option Addr} {i c : Nat} {e : TypeId} {s : Nat} {ys : List Value} {tM : TypeId} {bx : Array Value} {f : Nat → Bool} {w w' : World} (h : GJ q M A i c e s ys tM bx f w) (hg : Grew w w') : GJ q M A i c e s ys tM bx f w' :=
  ⟨fun h5 => (h.1 h5).grew hg, h.2.grew hg⟩
theorem GJ.app {q M : Nat} {A : Option Addr} {i c : Nat} {e : TypeId} {s : Nat} {ys : List Value} {tM : TypeId} {bx : Array Value} {f : Nat → Bool} {w w' : World} (h : GJ q M A i c e s ys tM bx f w) (hk : Kept (AtRow A) w w') (hA : ∀ k, AtRow A k → M < k) : GJ q M A i c e s ys tM bx (updF f q) w' := by
  refine ⟨fun (h5 : updF f q q = false) => ?_, h.2.kept hk (fun h => by have := hA _ h; omega)⟩
  unfold updF at h5
  rw [if_pos rfl] at h5
  cases h5
end
/-- A part's field list, from a drawn region that copies its code, too. -/
def PF9 (w0 : World) (M P : Nat) (A : Option Addr) (i c : Nat) (e e8 : TypeId) (ys : List Value) (x : PV) (j : Nat) (v : Value) (w : World) : Prop := match j with
  | 0 => v = .pointer (some ⟨M, 2, none⟩)
  | 1 => v = .slice A i c
  | 2 => v = .pointer (some ⟨P, 0, none⟩)
  | 3 => v = .int .i64 x.p.outer
  | 4 => v = .pointer (some ⟨P, 1, none⟩)
  | 5 => v = .int .i64 x.p.args
  | 6 => v = .pointer (some ⟨P, 2, none⟩)
  | 7 => v = .int .i64 x.p.temps
  | 8 => ∃ H, v = .slice (some ⟨H, 0, none⟩) 0 0 ∧ Blk w H e8 #[] ∧ w0.heap.size ≤ H ∧ ¬ AtRow A H
  | 9 => v = .pointer (some ⟨P, 3, none⟩)
  | 10 => v = .slice x.A x.p.code.length x.c
  | 11 => ∃ y : PV, (y.p = x.p ∧ PvOk w y ∧ ∀ ad, y.A = some ad → w0.heap.size ≤ ad.block ∧ ad.block < w.heap.size) ∧ v = .slice y.A x.p.code.length y.c
  | 12 => ∃ y : PV, (y.p = x.p ∧ PvOk w y ∧ ∀ ad, y.A = some ad → w0.heap.size ≤ ad.block ∧ ad.block < w.heap.size) ∧ v = .agg (pvF y).toArray
  | 13 => ∃ (y : PV) (H : Nat), (y.p = x.p ∧ PvOk w y ∧ ∀ ad, y.A = some ad → w0.heap.size ≤ ad.block ∧ ad.block < w.heap.size) ∧ v = .slice (some ⟨H, 0, none⟩) 1 1 ∧ Blk w H e (pvF y).toArray ∧ M < H ∧ ¬ AtRow A H
  | 14 => ∃ (y : PV) (A' : Option Addr) (c' : Nat), (y.p = x.p ∧ PvOk w y ∧ ∀ ad, y.A = some ad → w0.heap.size ≤ ad.block ∧ ad.block < w.heap.size) ∧ v = .slice A' (i + 1) c' ∧ Row w (M + 1) e 4 A' (i + 1) c' (ys ++ pvF y) ∧ RowTo w0 A A' ∧ ∀ ad, y.A = some ad → ¬ AtRow A' ad.block
  | _ => v = .pointer (some ⟨M, 2, none⟩)
theorem good_kept {w0 : World} {A : Option Addr} {x : PV} (hA : ∀ k, AtRow A k → k < w0.heap.size) {y : PV} {w w' : World} (h : y.p = x.p ∧ PvOk w y ∧ ∀ ad, y.A = some ad → w0.heap.size ≤ ad.block ∧ ad.block < w.heap.size) (hk : Kept (AtRow A) w w') : y.p = x.p ∧ PvOk w' y ∧ ∀ ad, y.A = some ad → w0.heap.size ≤ ad.block ∧ ad.block < w'.heap.size :=
  ⟨h.1, h.2.1.kept9 hk (fun ad e hF => by have h1 := h.2.2 ad e; have h2 := hA _ hF; omega), fun ad e => ⟨(h.2.2 ad e).1, Nat.lt_of_lt_of_le (h.2.2 ad e).2 hk.size⟩⟩
theorem PF9.stable {w0 : World} {M P : Nat} {A : Option Addr} {i c : Nat} {e e8 : TypeId} {ys : List Value} {x : PV} (hA : ∀ k, AtRow A k → k < w0.heap.size)
    (a b : Nat) (v : Value) (w w' : World) (hab : a ≠ b) (h : PF9 w0 M P A i c e e8 ys x a v w) (hr : GR 14 A b w w') : PF9 w0 M P A i c e e8 ys x a v w' := by
  have h0 := GR.zero b w w' hr
  unfold PF9 at h ⊢
  split at h
  · exact h
  · exact h
  · exact h
  · exact h
  · exact h
  · exact h
  · exact h
  · exact h
  · obtain ⟨H, h2, h3, h4, h5⟩ := h
    exact ⟨H, h2, h3.kept h0 h5, h4, h5⟩
  · exact h
  · exact h
  · obtain ⟨y, h1, h2⟩ := h
    exact ⟨y, good_kept hA h1 h0, h2⟩
  · obtain ⟨y, h1, h2⟩ := h
    exact ⟨y, good_kept hA h1 h0, h2⟩
  · obtain ⟨y, H, h1, h2, h3, h4, h5⟩ := h
    exact ⟨y, H, good_kept hA h1 h0, h2, h3.kept h0 h5, h4, h5⟩
  · obtain ⟨y, A', c', h1, h2, h3, h4⟩ := h
    refine ⟨y, A', c', good_kept hA h1 h0, h2, ?_, h4⟩
    unfold GR at hr
    rw [if_neg (fun e => hab e.symm)] at hr
    exact h3.kept hr (fun q hq e => e)
  · exact h
end Go.Proofs.YtjdgcgpidhljpaaGreatDoor
end

section
/- Stage 9: giveMethod. -/
namespace Go.Proofs.YtjdgcgpidhljpaaGreatDoor
open Go.RowKit

theorem litF_ok (x : Mt.Lit) : ∀ u ∈ litF x, u.oneCell' = true := by
  intro u hu
  simp only [litF, List.mem_cons, List.not_mem_nil, or_false] at hu
  rcases hu with rfl | rfl <;> rfl
theorem pvF_ok (x : PV) : ∀ u ∈ pvF x, u.oneCell' = true := by
  intro u hu
  simp only [pvF, List.mem_cons, List.not_mem_nil, or_false] at hu
  rcases hu with rfl | rfl | rfl | rfl <;> rfl
theorem blk_row {w : World} {H : Nat} {e : TypeId} {cs : List Value} (h : Blk w H e cs.toArray) : ∀ ad, some (⟨H, 0, none⟩ : Addr) = some ad → ∀ j u, cs[j]? = some u → w.cell? (ad.add j) = some u := fun ad e j u hu => by
  cases e
  rw [show (⟨H, 0, none⟩ : Addr).add j = ⟨H, j, none⟩ by unfold Addr.add; split <;> simp_all, h.cell j, List.getElem?_toArray]
  exact hu
set_option maxRecDepth 100000 in
/-- A result that is a method. -/
theorem res_meth1 {fn : Func} {a : Tmp} (hr : fn.results = #[ResultVar.cell a 37]) (tmps : Array Value) (g : Nat) (ha : tmps.getD a undef = .pointer (some ⟨g, 0, none⟩)) (w : World) (c0 c1 c2 : Value) (hb : Blk w g 37 #[c0, c1, c2]) :
    (results fn tmps).run Tryz.prog w = .ok (.agg #[c0, c1, c2]) w := by
  have y0 : w.cell? ⟨g, 0, none⟩ = some c0 := hb.cell 0
  have y1 : w.cell? ⟨g, 1, none⟩ = some c1 := hb.cell 1
  have y2 : w.cell? ⟨g, 2, none⟩ = some c2 := hb.cell 2
  have ha' : tmps[a]?.getD undef = .pointer (some ⟨g, 0, none⟩) := by simpa using ha
  simp [results, go_sem, *]
/-- What 'giveMethod' answers. -/
def GivePost (w : World) (v : MV) (e : Ending) (w' : World) : Prop := ∃ u : MV, e = .returned (.agg (mvCells u)) ∧ u.m = v.m ∧ MethAt w' u ∧ Grew w w'
set_option maxRecDepth 100000 in
set_option maxHeartbeats 8000000 in
theorem giveMethod_c (v : MV) (w : World) (h : MethAt w v) :
    Calls Tryz.prog 10 #[.agg (mvCells v)] w (GivePost w v) := by
  obtain ⟨sel, lits, A1, c1, vs, A2, c2⟩ := v
  obtain ⟨n, en⟩ : ∃ n, n = lits.length := ⟨_, rfl⟩
  obtain ⟨m, em⟩ : ∃ m, m = vs.length := ⟨_, rfl⟩
  have HS : Hid (sel.size ≤ 2000) := hid h.sel
  have HA : Hid (LitsAt w A1 lits) := hid h.lits
  have HP : Hid (PartsAt w A2 vs) := hid h.parts
  have hn : n ≤ 100 := by rw [en]; exact h.l1
  have hm : m ≤ 100 := by rw [em]; exact h.l2
  obtain ⟨G, hG⟩ : ∃ G, G = w.heap.size := ⟨_, rfl⟩
  have hb0 := Blk.new w 25 (mvCells ⟨sel, lits, A1, c1, vs, A2, c2⟩)
  rw [← hG] at hb0
  unfold mvCells at hb0 ⊢
  simp only at hb0 ⊢
  rw [← en, ← em] at hb0 ⊢
  have hb1 := Blk.new (w.alloc (.cells #[.string sel, .slice A1 n c1, .slice A2 m c2] 25)) 37 #[.string ⟨#[]⟩, .slice none 0 0, .slice none 0 0]
  have hb2 := Blk.new ((w.alloc (.cells #[.string sel, .slice A1 n c1, .slice A2 m c2] 25)).alloc (.cells #[.string ⟨#[]⟩, .slice none 0 0, .slice none 0 0] 37)) 37 #[.string sel, .slice none 0 0, .slice none 0 0]
  simp only [World.size_alloc, ← hG] at hb1 hb2
  obtain ⟨w2, hw2⟩ : ∃ w2, w2 = ((w.alloc (.cells #[.string sel, .slice A1 n c1, .slice A2 m c2] 25)).alloc (.cells #[.string ⟨#[]⟩, .slice none 0 0, .slice none 0 0] 37)).alloc (.cells #[.string sel, .slice none 0 0, .slice none 0 0] 37) := ⟨_, rfl⟩
  have hg2 : Grew w w2 := by rw [hw2]; exact (((Grew.refl w).alloc _).alloc _).alloc _
  have hs2 : w2.heap.size = G + 1 + 1 + 1 := by rw [hw2, hG]; simp only [World.size_alloc]
  rw [← hw2] at hb2
  have hb0' : Blk w2 G 25 #[.string sel, .slice A1 n c1, .slice A2 m c2] := by rw [hw2]; exact hb0.grew (((Grew.refl _).alloc _).alloc _)
  have hb1' : Blk w2 (G + 1) 37 #[.string ⟨#[]⟩, .slice none 0 0, .slice none 0 0] := by rw [hw2]; exact hb1.grew ((Grew.refl _).alloc _)
  have EN := hid en
  have EM := hid em
  have HG := hid hG
  have HG2 := hid hg2
  have HB0 := hid hb0'
  have HB1 := hid hb1'
  have HB2 := hid hb2
  have HS2 := hid hs2
  clear h en em hG hb0 hb1 hb2 hg2 hb0' hb1' hs2
  go_enter Tryz.func10, Tryz.ntmps10
  go_wp2_with fail
  rw [← hw2]
  rw [← HG.out]
  clear hw2
  obtain ⟨M, hM⟩ : ∃ M, M = G + 1 + 1 := ⟨_, rfl⟩
  rw [← hM] at HB2 HS2 ⊢
  have hGM : G + 1 < M := by omega
  clear hM
  go_loopw [4] (fun s4 wr => ∃ (i : Nat) (A' : Option Addr) (c' : Nat), s4 = .int .i64 ((i : Nat) : Int) ∧ i ≤ n ∧ Hid (Row wr (M + 1) 62 2 A' i c' ((lits.take i).flatMap litF) ∧ Blk wr M 37 #[.string sel, .slice A' i c', .slice none 0 0] ∧ Kept (fun k => M ≤ k) w2 wr)) (fun s4 _ => n - (intOf s4).toNat)
  case atStart => exact ⟨0, none, 0, rfl, Nat.zero_le _, hid ⟨Row.nil _ _ _ _, HB2.out, Kept.refl _ _⟩⟩
  case round =>
    obtain ⟨i, A', c', rfl, hi, HI⟩ := hrel
    obtain ⟨hrow, hbk, hkp⟩ := HI.out
    have hb0 := HB0.out.kept hkp (by omega)
    have m1 := hb0.cell 1
    have m2 := hb0.cell 2
    simp only [List.getElem?_toArray, List.getElem?_cons_zero, List.getElem?_cons_succ] at m1 m2
    have hgr : Grew w wr := hkp.grew HG2.out (fun k hk => by have := HG.out; omega)
    by_cases hlt : i < n
    · have f1 : (i : Int) < n := by omega
      obtain ⟨ad, x, rfl, hx, q0, q1, hadl⟩ := argLit_at (l := lits) ⟨fun x hx => (HA.out.1 x hx).1, HA.out.2⟩ (Grew.refl w) (i := i) (by rw [← EN.out]; exact hlt)
      have HX : Hid (lits.take (i + 1) = lits.take i ++ [x]) := hid (by rw [List.take_add_one, hx]; rfl)
      have hA : ∀ k, AtRow A' k → M < k := fun k hk => (at_row_lt hrow k hk).1
      have hA2 : ∀ k, AtRow A' k → k < wr.heap.size := fun k hk => (at_row_lt hrow k hk).2
      have hM2 : M < wr.heap.size := hbk.lt
      have HAd := hid hadl
      have HA1 := hid hA
      have HA2 := hid hA2
      have HK := hid hkp
      have HM2 := hid hM2
      have HGr := hid hgr
      have HBw := hid hb0
      have HQ0 := hid q0
      have HQ1 := hid q1
      have HJ0 : Hid (GJ 8 M A' i c' 62 2 ((lits.take i).flatMap litF) 37 #[.string sel, .slice A' i c', .slice none 0 0] (fun _ => false) wr) := hid ⟨fun _ => hrow, hbk⟩
      clear hrow hbk hkp hA hA2 hM2 HI hgr hb0 hadl q0 q1 hx
      generalize lits.take i = ls at *
      go_wp2_with fail
      clear m1 m2
      refine wp_region_facts4 (w0 := wr) _ 9 10 [17, 18, 19, 20, 21, 22, 23, 24, 25, 26] [] (GF wr M 1 G A' i c' (some ad) n c1 ad 2 62 (ls.flatMap litF) litF x) (Kept (AtRow A')) (GR 8 A') (GJ 8 M A' i c' 62 2 (ls.flatMap litF) 37 #[.string sel, .slice A' i c', .slice none 0 0]) (May.kept _) GR.zero GR.refl (by kernel_rfl) (by kernel_rfl) (Kept.refl _ _).drew (HJ0.out.grew (Grew.refl _).drew) (fun a b v w w' _ _ hab _ h hr => GF.stable a b v w w' hab h hr) ?_ ?_
      · repeat' (first | exact trivial | apply And.intro)
        all_goals
          intro a w' f hgw hJ hfi hdep hs hA
          have e3 := hs.eval 3 (by decide) (v := .pointer (some ⟨M, 0, none⟩)) rfl
          have e1 := hs.eval 1 (by decide) (v := .pointer (some ⟨G, 0, none⟩)) rfl
          have e4 := hs.eval 4 (by decide) (v := .int .i64 ((i : Nat) : Int)) rfl
          have HJ := hid hJ
          have HFi := hid hfi
          have HGW := hid hgw
          have HGe : Hid (Grew w w') := hid (hgw.grew HGr.out (fun k hk => by have h1 := HA1.out k hk; have h2 := HG.out; omega))
          have HBe := hid (HBw.out.kept hgw (fun hk => by have h1 := HA1.out _ hk; omega))
          clear hs hgw hJ hfi hdep
          simp only [Ahead, Region.binds, slotOf, GF, List.getD_cons_succ, List.getD_cons_zero, forall_const, and_true] at hA
          simp only [wantedD, if_true]
          unfold Oper.wp
          have ec : ∀ v, a.eval (.const v) = v := fun _ => rfl
          generalize hfe : a.eval = fe at *
          clear hfe
        · go_simp
          exact Gives3.of rfl (GR.refl 0 _) rfl (HJ.out.pure 0)
        · have q1 := HJ.out.2.cell 1
          simp only [List.getElem?_toArray, List.getElem?_cons_zero, List.getElem?_cons_succ] at q1
          go_simp
          exact Gives3.of rfl (GR.refl 1 _) rfl (HJ.out.pure 1)
        · go_simp
          exact Gives3.of rfl (GR.refl 2 _) rfl (HJ.out.pure 2)
        · have q1 := HBe.out.cell 1
          simp only [List.getElem?_toArray, List.getElem?_cons_zero, List.getElem?_cons_succ] at q1
          go_simp
          exact Gives3.of rfl (GR.refl 3 _) rfl (HJ.out.pure 3)
        · go_simp
          exact Gives3.of rfl (GR.refl 4 _) rfl (HJ.out.pure 4)
        · have f1 : (i : Int) < n := by omega
          go_simp
          exact Gives3.of rfl (GR.refl 5 _) rfl (HJ.out.pure 5)
        · have q0 : w'.cell? (ad.add (i * 2)) = _ := (HGe.out.below.cell (by rw [block_add]; exact HAd.out)).trans HQ0.out
          have q1 : w'.cell? ⟨ad.block, (ad.add (i * 2)).off + 1, none⟩ = _ := (HGe.out.below.cell (by exact HAd.out)).trans HQ1.out
          go_simp
          exact Gives3.of rfl (GR.refl 6 _) rfl (HJ.out.pure 6)
        · have hnew := Blk.new w' 62 (litF x).toArray
          have hgn : Grew w' (w'.alloc (.cells (litF x).toArray 62)) := (Grew.refl w').alloc _
          have HN := hid hnew
          have HGn := hid hgn
          unfold litF at hA HN HGn
          clear hnew hgn
          go_simp
          have hsz := HGW.out.size
          exact Gives3.of rfl (GR.grew (j := 7) HGn.out) ⟨w'.heap.size, rfl, HN.out, by have := HM2.out; omega, fun hk => by have := HA2.out _ hk; omega⟩ ((HJ.out.grew HGn.out).pure 7)
        · obtain ⟨h1, Hn, hv, hbn, _, _⟩ := hA
          have hown := HJ.out.1 HFi.out
          obtain ⟨A3, c3, w2', hrun, r1, r2, r3⟩ := run_catR (P := Tryz.prog) 34 34 62 (.agg #[.int .u8 0, .string ⟨#[]⟩]) 2 24 Tryz.underlying34 lit_info9 rfl (by decide) w' (M + 1) (by have := HGW.out.size; have := HM2.out; omega) A' i c' (ls.flatMap litF) hown (some ⟨Hn, 0, none⟩) 1 1 (litF x) rfl (litF_ok x) (by intro e; cases e) (blk_row hbn) (by omega) (by omega)
          have HR1 := hid r1
          have HR2 := hid r2
          have HR3 : Hid (RowTo wr A' A3) := hid (by
            rcases r3 with r3 | ⟨q, e1, e2⟩
            · exact .inl r3
            · exact .inr ⟨q, e1, Nat.le_trans HGW.out.size e2⟩)
          clear hown hbn r1 r2 r3
          simp only [execOp, resolve, invoke, builtin, Sem.run_bind, Sem.run_pure, Result.andThen_ok, List.map_toArray, List.map_cons, List.map_nil, h1, hv, hrun]
          refine Gives3.of rfl ?_ ?_ ?_
          · exact HR2.out
          · exact ⟨A3, c3, rfl, HR1.out, HR3.out⟩
          · exact HJ.out.app HR2.out HA1.out
        · go_simp
          exact Gives3.of rfl (GR.refl 9 _) rfl (HJ.out.pure 9)
      · intro a w3' hgw hs hf hJ _
        have h8 := hf 8 (by decide)
        have h9 := hf 9 (by decide)
        simp only [slotOf, GF, List.getD_cons_succ, List.getD_cons_zero] at h8 h9
        obtain ⟨A3, c3, ev, hrow, hto⟩ := h8
        obtain ⟨fn, rfl, hft⟩ := hs.put
        rw [hft] at ev h9
        have hbM := hJ.2
        have q1 := hbM.cell 1
        have q2 := hbM.frozen 1
        simp only [List.getElem?_toArray, List.getElem?_cons_zero, List.getElem?_cons_succ] at q1
        have HbM := hid hbM
        have Hrow := hid hrow
        have HGw := hid hgw
        clear hf hft hs hgw hJ hbM hrow hto
        simp only [List.drop_succ_cons, List.drop_zero, putAll, List.foldl_cons, List.foldl_nil, Act.put, List.setIfInBounds_toArray, List.set_cons_succ, List.set_cons_zero, ev, h9]
        clear ev h9
        go_wp2_with fail
        have hks : Kept (· = M) w3' (w3'.setCell ⟨M, 1, none⟩ (.slice A3 (i + 1) c3)) := (Kept.refl (· = M) w3').setCell (p := ⟨M, 1, none⟩) (fun _ => rfl) _
        have hbn := HbM.out.put 1 (.slice A3 (i + 1) c3)
        simp only [List.setIfInBounds_toArray, List.set_cons_zero, List.set_cons_succ] at hbn
        have HX2 := hid (Hrow.out.kept hks (fun q hq e => by have := Row.at_base Hrow.out q ⟨_, hq, rfl⟩; omega))
        have HX3 := hid hbn
        have HX4 : Hid (Kept (fun k => M ≤ k) w2 (w3'.setCell ⟨M, 1, none⟩ (.slice A3 (i + 1) c3))) := hid ((HK.out.trans (HGw.out.mono (fun k _ h => Nat.le_of_lt (HA1.out k h)))).trans (hks.mono (fun k _ h => by omega)))
        clear hks hbn
        go_round
        case rel => exact ⟨i + 1, A3, c3, by go_num, by omega, hid ⟨by rw [HX.out, List.flatMap_append]; simpa using HX2.out, HX3.out, HX4.out⟩⟩
        case measure => simp [intOf]; omega
    · have hin : i = n := by omega
      subst hin
      have hli : lits.take i = lits := by rw [EN.out, List.take_length]
      rw [hli] at hrow
      have HRow1 := hid hrow
      have HBk := hid hbk
      have HKp := hid hkp
      clear hrow hbk hkp hb0 hgr HI hli
      go_wp2_with fail
      clear m1 m2
      go_loopw [5] (fun s5 wr => ∃ (j : Nat) (B2 : Option Addr) (d2 : Nat) (pv : List PV), s5 = .int .i64 ((j : Nat) : Int) ∧ j ≤ m ∧ Hid (pv.map (·.p) = (vs.take j).map (·.p) ∧ Row wr (M + 1) 63 4 B2 j d2 (pv.flatMap pvF) ∧ Blk wr M 37 #[.string sel, .slice A' i c', .slice B2 j d2] ∧ Kept (fun k => M ≤ k) w2 wr ∧ Row wr (M + 1) 62 2 A' i c' (lits.flatMap litF) ∧ (∀ v ∈ pv, PvOk wr v ∧ ∀ ad, v.A = some ad → M < ad.block ∧ ¬ AtRow B2 ad.block ∧ ad.block < wr.heap.size) ∧ (∀ q, AtRow A' q → ¬ AtRow B2 q))) (fun s5 _ => m - (intOf s5).toNat)
      case atStart => exact ⟨0, none, 0, [], rfl, Nat.zero_le _, hid ⟨rfl, Row.nil _ _ _ _, HBk.out, HKp.out, HRow1.out, (fun v hv => by cases hv), (fun q _ h => by obtain ⟨_, e, _⟩ := h; cases e)⟩⟩
      case round =>
        obtain ⟨j, B2, d2, pv, rfl, hj, HJ⟩ := hrel
        clear HRow1 HBk HKp
        obtain ⟨hpm, hrow, hbk, hkp, hrow1, hels, hap⟩ := HJ.out
        have hb0 := HB0.out.kept hkp (by omega)
        have m1 := hb0.cell 1
        have m2 := hb0.cell 2
        simp only [List.getElem?_toArray, List.getElem?_cons_zero, List.getElem?_cons_succ] at m1 m2
        have hgr : Grew w wr := hkp.grew HG2.out (fun k hk => by have := HG.out; omega)
        by_cases hlt : j < m
        · have f1 : (j : Int) < m := by omega
          obtain ⟨ad, v, rfl, hv, q0, q1, q2, q3, hadl⟩ := argPart_at (l := vs) ⟨fun x hx => ⟨(HP.out.1 x hx).1, (HP.out.1 x hx).2.1, (HP.out.1 x hx).2.2.1⟩, HP.out.2⟩ hgr (i := j) (by rw [← EM.out]; exact hlt)
          have HX : Hid ((vs.take (j + 1)).map (·.p) = (vs.take j).map (·.p) ++ [v.p]) := hid (by rw [List.take_add_one, hv, List.map_append]; rfl)
          have HSrc := hid (HP.out.1 v (List.mem_of_getElem? hv))
          obtain ⟨P, hP⟩ : ∃ P, P = wr.heap.size := ⟨_, rfl⟩
          obtain ⟨wp, hwp⟩ : ∃ wp, wp = wr.alloc (.cells #[.int .i64 v.p.outer, .int .i64 v.p.args, .int .i64 v.p.temps, .slice v.A v.p.code.length v.c] 61) := ⟨_, rfl⟩
          have hgp : Grew wr wp := by rw [hwp]; exact (Grew.refl wr).alloc _
          have hbp := Blk.new wr 61 #[.int .i64 v.p.outer, .int .i64 v.p.args, .int .i64 v.p.temps, .slice v.A v.p.code.length v.c]
          rw [← hwp, ← hP] at hbp
          have hA : ∀ k, AtRow B2 k → M < k := fun k hk => (at_row_lt hrow k hk).1
          have hA2 : ∀ k, AtRow B2 k → k < P := fun k hk => by rw [hP]; exact (at_row_lt hrow k hk).2
          have hA1 : ∀ k, AtRow A' k → M < k ∧ k < wr.heap.size := fun k hk => at_row_lt hrow1 k hk
          have hM2 : M < wr.heap.size := hbk.lt
          have HPp := hid hP
          have HGp := hid hgp
          have HBp := hid hbp
          have HA1 := hid hA
          have HA2 := hid hA2
          have HA3 := hid hA1
          have HK := hid hkp
          have HM2 := hid hM2
          have HGr := hid (hgr.trans hgp)
          have HEls := hid hels
          have HAp := hid hap
          have HPm := hid hpm
          have HRow1 := hid hrow1
          have HPs : Hid (P < wp.heap.size) := hid hbp.lt
          have HJ0 : Hid (GJ 14 M B2 j d2 63 4 (pv.flatMap pvF) 37 #[.string sel, .slice A' i c', .slice B2 j d2] (fun _ => false) wp) := hid ⟨fun _ => hrow.grew hgp, hbk.grew hgp⟩
          clear hpm hrow hbk hkp hrow1 hels hap hA hA2 hA1 hM2 hgr hgp hbp hP HJ hv hb0 hadl
          go_wp2_with fail
          rw [← hwp, ← HPp.out]
          clear m1 m2 q0 q1 q2 q3 hwp
          refine wp_region_facts4 (w0 := wp) _ 12 16 [39, 40, 41, 42, 43, 44, 45, 46, 47, 48, 49, 50, 51, 52, 53, 54] [] (PF9 wp M P B2 j d2 63 5 (pv.flatMap pvF) v) (Kept (AtRow B2)) (GR 14 B2) (GJ 14 M B2 j d2 63 4 (pv.flatMap pvF) 37 #[.string sel, .slice A' i c', .slice B2 j d2]) (May.kept _) GR.zero GR.refl (by kernel_rfl) (by kernel_rfl) (Kept.refl _ _).drew (HJ0.out.grew (Grew.refl _).drew) (fun a b v w w' _ _ hab _ h hr => PF9.stable (fun k hk => Nat.lt_trans (HA2.out k hk) HPs.out) a b v w w' hab h hr) ?_ ?_
          · repeat' (first | exact trivial | apply And.intro)
            all_goals
              intro a w' f hgw hJ hfi hdep hs hA
              have e3 := hs.eval 3 (by decide) (v := .pointer (some ⟨M, 0, none⟩)) rfl
              have e6 := hs.eval 6 (by decide) (v := .pointer (some ⟨P, 0, none⟩)) rfl
              have HJ := hid hJ
              have HFi := hid hfi
              have HGW := hid hgw
              have HGe : Hid (Grew w w') := hid (hgw.grew HGr.out (fun k hk => by have h1 := HA1.out k hk; have h2 := HG.out; omega))
              have HBe := hid (HBp.out.kept hgw (fun hk => by have h1 := HA2.out _ hk; omega))
              clear hs hgw hJ hfi hdep
              simp only [Ahead, Region.binds, slotOf, PF9, List.getD_cons_succ, List.getD_cons_zero, forall_const, and_true] at hA
              simp only [wantedD, if_true]
              unfold Oper.wp
              have ec : ∀ v, a.eval (.const v) = v := fun _ => rfl
              generalize hfe : a.eval = fe at *
              clear hfe
            · go_simp
              exact Gives3.of rfl (GR.refl 0 _) rfl (HJ.out.pure 0)
            · have q1 := HJ.out.2.cell 2
              simp only [List.getElem?_toArray, List.getElem?_cons_zero, List.getElem?_cons_succ] at q1
              go_simp
              exact Gives3.of rfl (GR.refl 1 _) rfl (HJ.out.pure 1)
            · go_simp
              exact Gives3.of rfl (GR.refl 2 _) rfl (HJ.out.pure 2)
            · have q1 := HBe.out.cell 0
              simp only [List.getElem?_toArray, List.getElem?_cons_zero] at q1
              go_simp
              exact Gives3.of rfl (GR.refl 3 _) rfl (HJ.out.pure 3)
            · go_simp
              exact Gives3.of rfl (GR.refl 4 _) rfl (HJ.out.pure 4)
            · have q1 := HBe.out.cell 1
              simp only [List.getElem?_toArray, List.getElem?_cons_zero, List.getElem?_cons_succ] at q1
              go_simp
              exact Gives3.of rfl (GR.refl 5 _) rfl (HJ.out.pure 5)
            · go_simp
              exact Gives3.of rfl (GR.refl 6 _) rfl (HJ.out.pure 6)
            · have q1 := HBe.out.cell 2
              simp only [List.getElem?_toArray, List.getElem?_cons_zero, List.getElem?_cons_succ] at q1
              go_simp
              exact Gives3.of rfl (GR.refl 7 _) rfl (HJ.out.pure 7)
            · have hnew := Blk.new w' 5 #[]
              have hgn : Grew w' (w'.alloc (.cells #[] 5)) := (Grew.refl w').alloc _
              have HN := hid hnew
              have HGn := hid hgn
              clear hnew hgn
              go_simp
              have hsz := HGW.out.size
              exact Gives3.of rfl (GR.grew (j := 8) HGn.out) ⟨w'.heap.size, rfl, HN.out, hsz, fun hk => by have := HA2.out _ hk; have := HPs.out; omega⟩ ((HJ.out.grew HGn.out).pure 8)
            · go_simp
              exact Gives3.of rfl (GR.refl 9 _) rfl (HJ.out.pure 9)
            · have q1 := HBe.out.cell 3
              simp only [List.getElem?_toArray, List.getElem?_cons_zero, List.getElem?_cons_succ] at q1
              go_simp
              exact Gives3.of rfl (GR.refl 10 _) rfl (HJ.out.pure 10)
            · obtain ⟨⟨H, hv1, hbH, hHw, hHr⟩, hv2⟩ := hA
              obtain ⟨A3, c3, w2', hrun, r1, r2, r3, r4, r5⟩ := run_catE (P := Tryz.prog) 26 26 5 Tryz.underlying26 u8_info9 w' H hbH v.A v.c v.p.code (HSrc.out.1.grew HGe.out) (by have := HSrc.out.2.2.2; omega)
              have HG4 := hid r4
              have HF : Hid (PvOk w2' ⟨v.p, A3, c3⟩) := hid ⟨r1, r2, r3, HSrc.out.2.2.2⟩
              have HF2 : Hid (∀ ad, A3 = some ad → wp.heap.size ≤ ad.block ∧ ad.block < w2'.heap.size) := hid (fun ad e => ⟨by
                have h1 := (r5 ad e).1
                have h2 := HGW.out.size
                omega, (r5 ad e).2⟩)
              clear r1 r2 r3 r4 r5 hbH
              simp only [execOp, resolve, invoke, builtin, Sem.run_bind, Sem.run_pure, Result.andThen_ok, List.map_toArray, List.map_cons, List.map_nil, hv1, hv2, hrun]
              exact Gives3.of rfl (GR.grew (j := 11) HG4.out) ⟨⟨v.p, A3, c3⟩, ⟨rfl, HF.out, HF2.out⟩, rfl⟩ ((HJ.out.grew HG4.out).pure 11)
            · obtain ⟨h1, h2, h3, y, hy, hv⟩ := hA
              have HY := hid hy
              clear hy
              go_simp
              exact Gives3.of rfl (GR.refl 12 _) ⟨y, HY.out, by unfold pvF; rw [HY.out.1]⟩ (HJ.out.pure 12)
            · obtain ⟨y, hy, hv⟩ := hA
              have HY := hid hy
              have hnew := Blk.new w' 63 (pvF y).toArray
              have hgn : Grew w' (w'.alloc (.cells (pvF y).toArray 63)) := (Grew.refl w').alloc _
              have HN := hid hnew
              have HGn := hid hgn
              unfold pvF at hv HN HGn
              clear hnew hgn hy
              go_simp
              have hsz := HGW.out.size
              exact Gives3.of rfl (GR.grew (j := 13) HGn.out) ⟨y, w'.heap.size, good_kept (fun k hk => Nat.lt_trans (HA2.out k hk) HPs.out) HY.out (Kept.of_grew HGn.out), rfl, HN.out, by have := HM2.out; have := HGp.out.below.size; omega, fun hk => by have := HA2.out _ hk; have := HPs.out; omega⟩ ((HJ.out.grew HGn.out).pure 13)
            · obtain ⟨h1, ⟨y, Hn, hy, hv, hbn, _, _⟩, _⟩ := hA
              have hown := HJ.out.1 HFi.out
              obtain ⟨A3, c3, w2', hrun, r1, r2, r3⟩ := run_catR (P := Tryz.prog) 35 35 63 (.agg #[.int .i64 0, .int .i64 0, .int .i64 0, .slice none 0 0]) 4 48 Tryz.underlying35 part_info9 rfl (by decide) w' (M + 1) (by have := HGW.out.size; have := HM2.out; have := HGp.out.below.size; omega) B2 j d2 (pv.flatMap pvF) hown (some ⟨Hn, 0, none⟩) 1 1 (pvF y) rfl (pvF_ok y) (by intro e; cases e) (blk_row hbn) (by omega) (by omega)
              have HR1 := hid r1
              have HR2 := hid r2
              have HR3 : Hid (RowTo wp B2 A3) := hid (by
                rcases r3 with r3 | ⟨q, e1, e2⟩
                · exact .inl r3
                · exact .inr ⟨q, e1, Nat.le_trans HGW.out.size e2⟩)
              have HFar : Hid (∀ ad, y.A = some ad → ¬ AtRow A3 ad.block) := hid (by
                intro ad e hq
                have h4 := hy.2.2 ad e
                rcases r3 with r3 | ⟨q', e1, e2⟩
                · rw [r3] at hq
                  have := HA2.out _ hq
                  have := HPs.out
                  omega
                · rw [e1] at hq
                  obtain ⟨ad', e3, e4⟩ := hq
                  cases e3
                  simp only at e4
                  omega)
              have HY2 := hid (good_kept (fun k hk => Nat.lt_trans (HA2.out k hk) HPs.out) hy r2)
              clear hown hbn r1 r2 r3 hy
              simp only [execOp, resolve, invoke, builtin, Sem.run_bind, Sem.run_pure, Result.andThen_ok, List.map_toArray, List.map_cons, List.map_nil, h1, hv, hrun]
              exact Gives3.of rfl HR2.out ⟨y, A3, c3, HY2.out, rfl, HR1.out, HR3.out, HFar.out⟩ (HJ.out.app HR2.out HA1.out)
            · go_simp
              exact Gives3.of rfl (GR.refl 15 _) rfl (HJ.out.pure 15)
          · intro a w3' hgw hs hf hJ _
            have h14 := hf 14 (by decide)
            have h15 := hf 15 (by decide)
            simp only [slotOf, PF9, List.getD_cons_succ, List.getD_cons_zero] at h14 h15
            obtain ⟨y, A3, c3, hy, ev, hrow, hto, hfar⟩ := h14
            obtain ⟨fn, rfl, hft⟩ := hs.put
            rw [hft] at ev h15
            have hbM := hJ.2
            have q1 := hbM.cell 2
            have q2 := hbM.frozen 2
            simp only [List.getElem?_toArray, List.getElem?_cons_zero, List.getElem?_cons_succ] at q1
            have HbM := hid hbM
            have Hrow := hid hrow
            have HGw := hid hgw
            have HY := hid hy
            have HTo := hid hto
            have HFar := hid hfar
            clear hf hft hs hgw hJ hbM hrow hto hy hfar
            simp only [List.drop_succ_cons, List.drop_zero, putAll, List.foldl_cons, List.foldl_nil, Act.put, List.setIfInBounds_toArray, List.set_cons_succ, List.set_cons_zero, ev, h15]
            clear ev h15
            go_wp2_with fail
            have hks : Kept (· = M) w3' (w3'.setCell ⟨M, 2, none⟩ (.slice A3 (j + 1) c3)) := (Kept.refl (· = M) w3').setCell (p := ⟨M, 2, none⟩) (fun _ => rfl) _
            have hbn := HbM.out.put 2 (.slice A3 (j + 1) c3)
            simp only [List.setIfInBounds_toArray, List.set_cons_zero, List.set_cons_succ] at hbn
            have hall : Kept (fun k => AtRow B2 k ∨ k = M) wp (w3'.setCell ⟨M, 2, none⟩ (.slice A3 (j + 1) c3)) := (HGw.out.mono (fun _ _ h => .inl h)).trans (hks.mono (fun _ _ h => .inr h))
            have hall2 : Kept (fun k => AtRow B2 k ∨ k = M) wr (w3'.setCell ⟨M, 2, none⟩ (.slice A3 (j + 1) c3)) := (Kept.of_grew HGp.out).trans hall
            have HX2 := hid (Hrow.out.kept hks (fun q hq e => by have := Row.at_base Hrow.out q ⟨_, hq, rfl⟩; omega))
            have HX3 := hid hbn
            have HX4 : Hid (Kept (fun k => M ≤ k) w2 (w3'.setCell ⟨M, 2, none⟩ (.slice A3 (j + 1) c3))) := hid (HK.out.trans (hall2.mono (fun k _ h => by rcases h with h | h; exact Nat.le_of_lt (HA1.out k h); omega)))
            have HX5 := hid (HRow1.out.kept hall2 (fun q hq hF => by
              have h1 := HA3.out q ⟨_, hq, rfl⟩
              rcases hF with hF | hF
              · exact HAp.out q ⟨_, hq, rfl⟩ hF
              · omega))
            have hsz := Kept.size hall2
            have hszw : wp.heap.size ≤ w3'.heap.size := Kept.size HGw.out
            have hPs := HPs.out
            have hPp := HPp.out
            have HX6 : Hid (∀ v ∈ pv ++ [y], PvOk (w3'.setCell ⟨M, 2, none⟩ (.slice A3 (j + 1) c3)) v ∧ ∀ ad, v.A = some ad → M < ad.block ∧ ¬ AtRow A3 ad.block ∧ ad.block < (w3'.setCell ⟨M, 2, none⟩ (.slice A3 (j + 1) c3)).heap.size) := hid (fun v hv => by
              rcases List.mem_append.1 hv with hv | hv
              · obtain ⟨h1, h2⟩ := HEls.out v hv
                refine ⟨h1.kept9 hall2 (fun ad e hF => by
                  have h3 := h2 ad e
                  rcases hF with hF | hF
                  · exact h3.2.1 hF
                  · omega), fun ad e => ?_⟩
                have h3 := h2 ad e
                refine ⟨h3.1, fun hq => ?_, by omega⟩
                rcases HTo.out with h4 | ⟨q, e1, e2⟩
                · rw [h4] at hq; exact h3.2.1 hq
                · rw [e1] at hq
                  obtain ⟨ad', e3, e4⟩ := hq
                  cases e3
                  simp only at e4
                  omega
              · rw [List.mem_singleton.1 hv]
                obtain ⟨_, h2, h3⟩ := HY.out
                have hm2 := HM2.out
                refine ⟨h2.kept9 hks (fun ad e hF => by have := h3 ad e; omega), fun ad e => ?_⟩
                have h4 := h3 ad e
                refine ⟨by omega, HFar.out _ e, Nat.lt_of_lt_of_le h4.2 (Kept.size hks)⟩)
            have HX7 : Hid (∀ q, AtRow A' q → ¬ AtRow A3 q) := hid (fun q hq hq3 => by
              rcases HTo.out with h4 | ⟨q', e1, e2⟩
              · rw [h4] at hq3; exact HAp.out q hq hq3
              · rw [e1] at hq3
                obtain ⟨ad', e3, e4⟩ := hq3
                cases e3
                simp only at e4
                have := (HA3.out q hq).2
                omega)
            clear hks hbn hall hall2 hsz hszw hPs hPp
            go_round
            case rel => exact ⟨j + 1, A3, c3, pv ++ [y], by go_num, by omega, hid ⟨by rw [HX.out, List.map_append, HPm.out]; simp [HY.out.1], by rw [List.flatMap_append]; simpa using HX2.out, HX3.out, HX4.out, HX5.out, HX6.out, HX7.out⟩⟩
            case measure => simp [intOf]; omega
        · have hjm : j = m := by omega
          subst hjm
          have hpl : pv.length = j := by
            have := congrArg List.length hpm
            rw [List.length_map, List.length_map, List.length_take] at this
            have := EM.out
            omega
          have hpm2 : pv.map (·.p) = vs.map (·.p) := by rw [hpm, EM.out, List.take_length]
          have hb1 := HB1.out.kept hkp (by omega)
          have HMe : Hid (∀ wf, Kept (· = G + 1) wr wf → MethAt wf ⟨sel, lits, A', c', pv, B2, d2⟩) := hid (fun wf hk => by
            refine ⟨HS.out, ?_, by show lits.length ≤ 100; have := EN.out; omega, ?_, by show pv.length ≤ 100; omega⟩
            · exact row_lits EN.out (hrow1.kept hk (fun q hq e => by have := Row.at_base hrow1 q ⟨_, hq, rfl⟩; omega)) (fun x hx => HA.out.1 x hx)
            · refine row_parts hpl.symm (hrow.kept hk (fun q hq e => by have := Row.at_base hrow q ⟨_, hq, rfl⟩; omega)) (fun v hv => ?_)
              obtain ⟨h1, h2⟩ := hels v hv
              exact h1.kept9 hk (fun ad e hF => by have := h2 ad e; omega))
          have HLs : Hid (lits.length = i ∧ pv.length = j ∧ pv.map (·.p) = vs.map (·.p)) := hid ⟨EN.out.symm, hpl, hpm2⟩
          have n0 := hbk.cell 0
          have n1 := hbk.cell 1
          have n2 := hbk.cell 2
          have r0 := hb1.cell 0
          have r1 := hb1.cell 1
          have r2 := hb1.cell 2
          have k0 := hb1.frozen 0
          have k1 := hb1.frozen 1
          have k2 := hb1.frozen 2
          simp only [List.getElem?_toArray, List.getElem?_cons_zero, List.getElem?_cons_succ] at n0 n1 n2 r0 r1 r2
          have HB1' := hid hb1
          have HGr := hid hgr
          clear HJ hpm hrow hbk hkp hrow1 hels hap hpl hgr hb0 hb1 hpm2
          go_wp2_with fail
          refine bodyPost_ret (v := .agg #[.string sel, .slice A' i c', .slice B2 j d2]) (res_meth1 rfl _ (G + 1) rfl _ _ _ _ (HB1'.out.put3 _ _ _)) rfl ?_
          have hk9 := kept3 (Kept.refl (· = G + 1) wr) (g := G + 1) (fun _ => rfl) (.string sel) (.slice A' i c') (.slice B2 j d2)
          refine ⟨⟨sel, lits, A', c', pv, B2, d2⟩, ?_, ?_, HMe.out _ hk9, hk9.grew HGr.out (fun q e => by have := HG.out; omega)⟩
          · rw [mvCells, HLs.out.1, HLs.out.2.1]
          · rw [MV.m, MV.m, HLs.out.2.2]
end Go.Proofs.YtjdgcgpidhljpaaGreatDoor
end

section
/- Stage 9: takeMethod. Written by tools/gen_mug.py. -/
namespace Go.Proofs.YtjdgcgpidhljpaaGreatDoor
open Go.RowKit

theorem rlit_info9 : (Tryz.prog.info? 59).map (fun i => (i.zero, i.size, i.bytes)) = some (some (.agg #[.int .u8 0, .string ⟨#[]⟩]), 2, 24) := by kernel_rfl
theorem rpart_info9 : (Tryz.prog.info? 61).map (fun i => (i.zero, i.size, i.bytes)) = some (some (.agg #[.int .i64 0, .int .i64 0, .int .i64 0, .slice none 0 0]), 4, 48) := by kernel_rfl
set_option maxRecDepth 100000 in
/-- A result that is a method of the document's. -/
theorem rres_meth1 {fn : Func} {a : Tmp} (hr : fn.results = #[ResultVar.cell a 25]) (tmps : Array Value) (g : Nat) (ha : tmps.getD a undef = .pointer (some ⟨g, 0, none⟩)) (w : World) (c0 c1 c2 : Value) (hb : Blk w g 25 #[c0, c1, c2]) :
    (results fn tmps).run Tryz.prog w = .ok (.agg #[c0, c1, c2]) w := by
  have y0 : w.cell? ⟨g, 0, none⟩ = some c0 := hb.cell 0
  have y1 : w.cell? ⟨g, 1, none⟩ = some c1 := hb.cell 1
  have y2 : w.cell? ⟨g, 2, none⟩ = some c2 := hb.cell 2
  have ha' : tmps[a]?.getD undef = .pointer (some ⟨g, 0, none⟩) := by simpa using ha
  simp [results, go_sem, *]
/-- What 'takeMethod' answers. -/
def TakePost (w : World) (v : MV) (e : Ending) (w' : World) : Prop := ∃ u : MV, e = .returned (.agg (mvCells u)) ∧ u.m = v.m ∧ MethAt w' u ∧ Grew w w'
set_option maxRecDepth 100000 in
set_option maxHeartbeats 8000000 in
theorem takeMethod_c (v : MV) (w : World) (h : MethAt w v) :
    Calls Tryz.prog 18 #[.agg (mvCells v)] w (TakePost w v) := by
  obtain ⟨sel, lits, A1, c1, vs, A2, c2⟩ := v
  obtain ⟨n, en⟩ : ∃ n, n = lits.length := ⟨_, rfl⟩
  obtain ⟨m, em⟩ : ∃ m, m = vs.length := ⟨_, rfl⟩
  have HS : Hid (sel.size ≤ 2000) := hid h.sel
  have HA : Hid (LitsAt w A1 lits) := hid h.lits
  have HP : Hid (PartsAt w A2 vs) := hid h.parts
  have hn : n ≤ 100 := by rw [en]; exact h.l1
  have hm : m ≤ 100 := by rw [em]; exact h.l2
  obtain ⟨G, hG⟩ : ∃ G, G = w.heap.size := ⟨_, rfl⟩
  have hb0 := Blk.new w 37 (mvCells ⟨sel, lits, A1, c1, vs, A2, c2⟩)
  rw [← hG] at hb0
  unfold mvCells at hb0 ⊢
  simp only at hb0 ⊢
  rw [← en, ← em] at hb0 ⊢
  have hb1 := Blk.new (w.alloc (.cells #[.string sel, .slice A1 n c1, .slice A2 m c2] 37)) 25 #[.string ⟨#[]⟩, .slice none 0 0, .slice none 0 0]
  have hb2 := Blk.new ((w.alloc (.cells #[.string sel, .slice A1 n c1, .slice A2 m c2] 37)).alloc (.cells #[.string ⟨#[]⟩, .slice none 0 0, .slice none 0 0] 25)) 25 #[.string sel, .slice none 0 0, .slice none 0 0]
  simp only [World.size_alloc, ← hG] at hb1 hb2
  obtain ⟨w2, hw2⟩ : ∃ w2, w2 = ((w.alloc (.cells #[.string sel, .slice A1 n c1, .slice A2 m c2] 37)).alloc (.cells #[.string ⟨#[]⟩, .slice none 0 0, .slice none 0 0] 25)).alloc (.cells #[.string sel, .slice none 0 0, .slice none 0 0] 25) := ⟨_, rfl⟩
  have hg2 : Grew w w2 := by rw [hw2]; exact (((Grew.refl w).alloc _).alloc _).alloc _
  have hs2 : w2.heap.size = G + 1 + 1 + 1 := by rw [hw2, hG]; simp only [World.size_alloc]
  rw [← hw2] at hb2
  have hb0' : Blk w2 G 37 #[.string sel, .slice A1 n c1, .slice A2 m c2] := by rw [hw2]; exact hb0.grew (((Grew.refl _).alloc _).alloc _)
  have hb1' : Blk w2 (G + 1) 25 #[.string ⟨#[]⟩, .slice none 0 0, .slice none 0 0] := by rw [hw2]; exact hb1.grew ((Grew.refl _).alloc _)
  have EN := hid en
  have EM := hid em
  have HG := hid hG
  have HG2 := hid hg2
  have HB0 := hid hb0'
  have HB1 := hid hb1'
  have HB2 := hid hb2
  have HS2 := hid hs2
  clear h en em hG hb0 hb1 hb2 hg2 hb0' hb1' hs2
  go_enter Tryz.func18, Tryz.ntmps18
  go_wp2_with fail
  rw [← hw2]
  rw [← HG.out]
  clear hw2
  obtain ⟨M, hM⟩ : ∃ M, M = G + 1 + 1 := ⟨_, rfl⟩
  rw [← hM] at HB2 HS2 ⊢
  have hGM : G + 1 < M := by omega
  clear hM
  go_loopw [4] (fun s4 wr => ∃ (i : Nat) (A' : Option Addr) (c' : Nat), s4 = .int .i64 ((i : Nat) : Int) ∧ i ≤ n ∧ Hid (Row wr (M + 1) 59 2 A' i c' ((lits.take i).flatMap litF) ∧ Blk wr M 25 #[.string sel, .slice A' i c', .slice none 0 0] ∧ Kept (fun k => M ≤ k) w2 wr)) (fun s4 _ => n - (intOf s4).toNat)
  case atStart => exact ⟨0, none, 0, rfl, Nat.zero_le _, hid ⟨Row.nil _ _ _ _, HB2.out, Kept.refl _ _⟩⟩
  case round =>
    obtain ⟨i, A', c', rfl, hi, HI⟩ := hrel
    obtain ⟨hrow, hbk, hkp⟩ := HI.out
    have hb0 := HB0.out.kept hkp (by omega)
    have m1 := hb0.cell 1
    have m2 := hb0.cell 2
    simp only [List.getElem?_toArray, List.getElem?_cons_zero, List.getElem?_cons_succ] at m1 m2
    have hgr : Grew w wr := hkp.grew HG2.out (fun k hk => by have := HG.out; omega)
    by_cases hlt : i < n
    · have f1 : (i : Int) < n := by omega
      obtain ⟨ad, x, rfl, hx, q0, q1, hadl⟩ := argLit_at (l := lits) ⟨fun x hx => (HA.out.1 x hx).1, HA.out.2⟩ (Grew.refl w) (i := i) (by rw [← EN.out]; exact hlt)
      have HX : Hid (lits.take (i + 1) = lits.take i ++ [x]) := hid (by rw [List.take_add_one, hx]; rfl)
      have hA : ∀ k, AtRow A' k → M < k := fun k hk => (at_row_lt hrow k hk).1
      have hA2 : ∀ k, AtRow A' k → k < wr.heap.size := fun k hk => (at_row_lt hrow k hk).2
      have hM2 : M < wr.heap.size := hbk.lt
      have HAd := hid hadl
      have HA1 := hid hA
      have HA2 := hid hA2
      have HK := hid hkp
      have HM2 := hid hM2
      have HGr := hid hgr
      have HBw := hid hb0
      have HQ0 := hid q0
      have HQ1 := hid q1
      have HJ0 : Hid (GJ 8 M A' i c' 59 2 ((lits.take i).flatMap litF) 25 #[.string sel, .slice A' i c', .slice none 0 0] (fun _ => false) wr) := hid ⟨fun _ => hrow, hbk⟩
      clear hrow hbk hkp hA hA2 hM2 HI hgr hb0 hadl q0 q1 hx
      generalize lits.take i = ls at *
      go_wp2_with fail
      clear m1 m2
      refine wp_region_facts4 (w0 := wr) _ 9 10 [16, 17, 18, 19, 20, 21, 22, 23, 24, 25] [] (GF wr M 1 G A' i c' (some ad) n c1 ad 2 59 (ls.flatMap litF) litF x) (Kept (AtRow A')) (GR 8 A') (GJ 8 M A' i c' 59 2 (ls.flatMap litF) 25 #[.string sel, .slice A' i c', .slice none 0 0]) (May.kept _) GR.zero GR.refl (by kernel_rfl) (by kernel_rfl) (Kept.refl _ _).drew (HJ0.out.grew (Grew.refl _).drew) (fun a b v w w' _ _ hab _ h hr => GF.stable a b v w w' hab h hr) ?_ ?_
      · repeat' (first | exact trivial | apply And.intro)
        all_goals
          intro a w' f hgw hJ hfi hdep hs hA
          have e3 := hs.eval 3 (by decide) (v := .pointer (some ⟨M, 0, none⟩)) rfl
          have e1 := hs.eval 1 (by decide) (v := .pointer (some ⟨G, 0, none⟩)) rfl
          have e4 := hs.eval 4 (by decide) (v := .int .i64 ((i : Nat) : Int)) rfl
          have HJ := hid hJ
          have HFi := hid hfi
          have HGW := hid hgw
          have HGe : Hid (Grew w w') := hid (hgw.grew HGr.out (fun k hk => by have h1 := HA1.out k hk; have h2 := HG.out; omega))
          have HBe := hid (HBw.out.kept hgw (fun hk => by have h1 := HA1.out _ hk; omega))
          clear hs hgw hJ hfi hdep
          simp only [Ahead, Region.binds, slotOf, GF, List.getD_cons_succ, List.getD_cons_zero, forall_const, and_true] at hA
          simp only [wantedD, if_true]
          unfold Oper.wp
          have ec : ∀ v, a.eval (.const v) = v := fun _ => rfl
          generalize hfe : a.eval = fe at *
          clear hfe
        · go_simp
          exact Gives3.of rfl (GR.refl 0 _) rfl (HJ.out.pure 0)
        · have q1 := HJ.out.2.cell 1
          simp only [List.getElem?_toArray, List.getElem?_cons_zero, List.getElem?_cons_succ] at q1
          go_simp
          exact Gives3.of rfl (GR.refl 1 _) rfl (HJ.out.pure 1)
        · go_simp
          exact Gives3.of rfl (GR.refl 2 _) rfl (HJ.out.pure 2)
        · have q1 := HBe.out.cell 1
          simp only [List.getElem?_toArray, List.getElem?_cons_zero, List.getElem?_cons_succ] at q1
          go_simp
          exact Gives3.of rfl (GR.refl 3 _) rfl (HJ.out.pure 3)
        · go_simp
          exact Gives3.of rfl (GR.refl 4 _) rfl (HJ.out.pure 4)
        · have f1 : (i : Int) < n := by omega
          go_simp
          exact Gives3.of rfl (GR.refl 5 _) rfl (HJ.out.pure 5)
        · have q0 : w'.cell? (ad.add (i * 2)) = _ := (HGe.out.below.cell (by rw [block_add]; exact HAd.out)).trans HQ0.out
          have q1 : w'.cell? ⟨ad.block, (ad.add (i * 2)).off + 1, none⟩ = _ := (HGe.out.below.cell (by exact HAd.out)).trans HQ1.out
          go_simp
          exact Gives3.of rfl (GR.refl 6 _) rfl (HJ.out.pure 6)
        · have hnew := Blk.new w' 59 (litF x).toArray
          have hgn : Grew w' (w'.alloc (.cells (litF x).toArray 59)) := (Grew.refl w').alloc _
          have HN := hid hnew
          have HGn := hid hgn
          unfold litF at hA HN HGn
          clear hnew hgn
          go_simp
          have hsz := HGW.out.size
          exact Gives3.of rfl (GR.grew (j := 7) HGn.out) ⟨w'.heap.size, rfl, HN.out, by have := HM2.out; omega, fun hk => by have := HA2.out _ hk; omega⟩ ((HJ.out.grew HGn.out).pure 7)
        · obtain ⟨h1, Hn, hv, hbn, _, _⟩ := hA
          have hown := HJ.out.1 HFi.out
          obtain ⟨A3, c3, w2', hrun, r1, r2, r3⟩ := run_catR (P := Tryz.prog) 22 22 59 (.agg #[.int .u8 0, .string ⟨#[]⟩]) 2 24 Tryz.underlying22 rlit_info9 rfl (by decide) w' (M + 1) (by have := HGW.out.size; have := HM2.out; omega) A' i c' (ls.flatMap litF) hown (some ⟨Hn, 0, none⟩) 1 1 (litF x) rfl (litF_ok x) (by intro e; cases e) (blk_row hbn) (by omega) (by omega)
          have HR1 := hid r1
          have HR2 := hid r2
          have HR3 : Hid (RowTo wr A' A3) := hid (by
            rcases r3 with r3 | ⟨q, e1, e2⟩
            · exact .inl r3
            · exact .inr ⟨q, e1, Nat.le_trans HGW.out.size e2⟩)
          clear hown hbn r1 r2 r3
          simp only [execOp, resolve, invoke, builtin, Sem.run_bind, Sem.run_pure, Result.andThen_ok, List.map_toArray, List.map_cons, List.map_nil, h1, hv, hrun]
          refine Gives3.of rfl ?_ ?_ ?_
          · exact HR2.out
          · exact ⟨A3, c3, rfl, HR1.out, HR3.out⟩
          · exact HJ.out.app HR2.out HA1.out
        · go_simp
          exact Gives3.of rfl (GR.refl 9 _) rfl (HJ.out.pure 9)
      · intro a w3' hgw hs hf hJ _
        have h8 := hf 8 (by decide)
        have h9 := hf 9 (by decide)
        simp only [slotOf, GF, List.getD_cons_succ, List.getD_cons_zero] at h8 h9
        obtain ⟨A3, c3, ev, hrow, hto⟩ := h8
        obtain ⟨fn, rfl, hft⟩ := hs.put
        rw [hft] at ev h9
        have hbM := hJ.2
        have q1 := hbM.cell 1
        have q2 := hbM.frozen 1
        simp only [List.getElem?_toArray, List.getElem?_cons_zero, List.getElem?_cons_succ] at q1
        have HbM := hid hbM
        have Hrow := hid hrow
        have HGw := hid hgw
        clear hf hft hs hgw hJ hbM hrow hto
        simp only [List.drop_succ_cons, List.drop_zero, putAll, List.foldl_cons, List.foldl_nil, Act.put, List.setIfInBounds_toArray, List.set_cons_succ, List.set_cons_zero, ev, h9]
        clear ev h9
        go_wp2_with fail
        have hks : Kept (· = M) w3' (w3'.setCell ⟨M, 1, none⟩ (.slice A3 (i + 1) c3)) := (Kept.refl (· = M) w3').setCell (p := ⟨M, 1, none⟩) (fun _ => rfl) _
        have hbn := HbM.out.put 1 (.slice A3 (i + 1) c3)
        simp only [List.setIfInBounds_toArray, List.set_cons_zero, List.set_cons_succ] at hbn
        have HX2 := hid (Hrow.out.kept hks (fun q hq e => by have := Row.at_base Hrow.out q ⟨_, hq, rfl⟩; omega))
        have HX3 := hid hbn
        have HX4 : Hid (Kept (fun k => M ≤ k) w2 (w3'.setCell ⟨M, 1, none⟩ (.slice A3 (i + 1) c3))) := hid ((HK.out.trans (HGw.out.mono (fun k _ h => Nat.le_of_lt (HA1.out k h)))).trans (hks.mono (fun k _ h => by omega)))
        clear hks hbn
        go_round
        case rel => exact ⟨i + 1, A3, c3, by go_num, by omega, hid ⟨by rw [HX.out, List.flatMap_append]; simpa using HX2.out, HX3.out, HX4.out⟩⟩
        case measure => simp [intOf]; omega
    · obtain rfl : n = i := by omega
      have hli : lits.take n = lits := by rw [EN.out, List.take_length]
      rw [hli] at hrow
      have HRow1 := hid hrow
      have HBk := hid hbk
      have HKp := hid hkp
      clear hrow hbk hkp hb0 hgr HI hli
      go_wp2_with fail
      clear m1 m2
      obtain ⟨A0, hA0⟩ : ∃ A0, A0 = A' := ⟨_, rfl⟩
      obtain ⟨c0, hc0⟩ : ∃ c0, c0 = c' := ⟨_, rfl⟩
      rw [← hA0] at HRow1 HBk
      rw [← hc0] at HRow1 HBk
      clear hA0 hc0 A' c'
      go_loopw [5] (fun s5 wr => ∃ (i : Nat) (A' : Option Addr) (c' : Nat), s5 = .int .i64 ((i : Nat) : Int) ∧ i ≤ m ∧ Hid (Row wr (M + 1) 61 4 A' i c' ((vs.take i).flatMap pvF) ∧ Blk wr M 25 #[.string sel, .slice A0 n c0, .slice A' i c'] ∧ Kept (fun k => M ≤ k) w2 wr ∧ Row wr (M + 1) 59 2 A0 n c0 (lits.flatMap litF) ∧ (∀ q, AtRow A0 q → ¬ AtRow A' q))) (fun s5 _ => m - (intOf s5).toNat)
      case atStart => exact ⟨0, none, 0, rfl, Nat.zero_le _, hid ⟨Row.nil _ _ _ _, HBk.out, HKp.out, HRow1.out, (fun q _ h => by obtain ⟨_, e, _⟩ := h; cases e)⟩⟩
      case round =>
        obtain ⟨i, A', c', rfl, hi, HI⟩ := hrel
        clear HRow1 HBk HKp
        obtain ⟨hrow, hbk, hkp, hrow1, hap⟩ := HI.out
        have hb0 := HB0.out.kept hkp (by omega)
        have m1 := hb0.cell 1
        have m2 := hb0.cell 2
        simp only [List.getElem?_toArray, List.getElem?_cons_zero, List.getElem?_cons_succ] at m1 m2
        have hgr : Grew w wr := hkp.grew HG2.out (fun k hk => by have := HG.out; omega)
        by_cases hlt : i < m
        · have f1 : (i : Int) < m := by omega
          obtain ⟨ad, x, rfl, hx, q0, q1, q2, q3, hadl⟩ := argPart_at (l := vs) ⟨fun x hx => ⟨(HP.out.1 x hx).1, (HP.out.1 x hx).2.1, (HP.out.1 x hx).2.2.1⟩, HP.out.2⟩ (Grew.refl w) (i := i) (by rw [← EM.out]; exact hlt)
          have HX : Hid (vs.take (i + 1) = vs.take i ++ [x]) := hid (by rw [List.take_add_one, hx]; rfl)
          have hA : ∀ k, AtRow A' k → M < k := fun k hk => (at_row_lt hrow k hk).1
          have hA2 : ∀ k, AtRow A' k → k < wr.heap.size := fun k hk => (at_row_lt hrow k hk).2
          have hM2 : M < wr.heap.size := hbk.lt
          have HAd := hid hadl
          have HA1 := hid hA
          have HA2 := hid hA2
          have HK := hid hkp
          have HM2 := hid hM2
          have HGr := hid hgr
          have HBw := hid hb0
          have HQ0 := hid q0
          have HQ1 := hid q1
          have HQ2 := hid q2
          have HQ3 := hid q3
          have HR1 := hid hrow1
          have HAp := hid hap
          have HA3 : Hid (∀ q, AtRow A0 q → M < q ∧ q < wr.heap.size) := hid (fun q hq => at_row_lt hrow1 q hq)
          have HJ0 : Hid (GJ 8 M A' i c' 61 4 ((vs.take i).flatMap pvF) 25 #[.string sel, .slice A0 n c0, .slice A' i c'] (fun _ => false) wr) := hid ⟨fun _ => hrow, hbk⟩
          clear hrow hbk hkp hA hA2 hM2 HI hgr hb0 hadl q0 q1 q2 q3 hx hrow1 hap
          generalize hvt : vs.take i = ls at *
          go_wp2_with fail
          clear m1 m2
          refine wp_region_facts4 (w0 := wr) _ 9 10 [33, 34, 35, 36, 37, 38, 39, 40, 41, 42] [] (GF wr M 2 G A' i c' (some ad) m c2 ad 4 61 (ls.flatMap pvF) pvF x) (Kept (AtRow A')) (GR 8 A') (GJ 8 M A' i c' 61 4 (ls.flatMap pvF) 25 #[.string sel, .slice A0 n c0, .slice A' i c']) (May.kept _) GR.zero GR.refl (by kernel_rfl) (by kernel_rfl) (Kept.refl _ _).drew (HJ0.out.grew (Grew.refl _).drew) (fun a b v w w' _ _ hab _ h hr => GF.stable a b v w w' hab h hr) ?_ ?_
          · repeat' (first | exact trivial | apply And.intro)
            all_goals
              intro a w' f hgw hJ hfi hdep hs hA
              have e3 := hs.eval 3 (by decide) (v := .pointer (some ⟨M, 0, none⟩)) rfl
              have e1 := hs.eval 1 (by decide) (v := .pointer (some ⟨G, 0, none⟩)) rfl
              have e4 := hs.eval 5 (by decide) (v := .int .i64 ((i : Nat) : Int)) rfl
              have HJ := hid hJ
              have HFi := hid hfi
              have HGW := hid hgw
              have HGe : Hid (Grew w w') := hid (hgw.grew HGr.out (fun k hk => by have h1 := HA1.out k hk; have h2 := HG.out; omega))
              have HBe := hid (HBw.out.kept hgw (fun hk => by have h1 := HA1.out _ hk; omega))
              clear hs hgw hJ hfi hdep
              simp only [Ahead, Region.binds, slotOf, GF, List.getD_cons_succ, List.getD_cons_zero, forall_const, and_true] at hA
              simp only [wantedD, if_true]
              unfold Oper.wp
              have ec : ∀ v, a.eval (.const v) = v := fun _ => rfl
              generalize hfe : a.eval = fe at *
              clear hfe
            · go_simp
              exact Gives3.of rfl (GR.refl 0 _) rfl (HJ.out.pure 0)
            · have q1 := HJ.out.2.cell 2
              simp only [List.getElem?_toArray, List.getElem?_cons_zero, List.getElem?_cons_succ] at q1
              go_simp
              exact Gives3.of rfl (GR.refl 1 _) rfl (HJ.out.pure 1)
            · go_simp
              exact Gives3.of rfl (GR.refl 2 _) rfl (HJ.out.pure 2)
            · have q1 := HBe.out.cell 2
              simp only [List.getElem?_toArray, List.getElem?_cons_zero, List.getElem?_cons_succ] at q1
              go_simp
              exact Gives3.of rfl (GR.refl 3 _) rfl (HJ.out.pure 3)
            · go_simp
              exact Gives3.of rfl (GR.refl 4 _) rfl (HJ.out.pure 4)
            · have f1 : (i : Int) < m := by omega
              go_simp
              exact Gives3.of rfl (GR.refl 5 _) rfl (HJ.out.pure 5)
            · have q0 : w'.cell? (ad.add (i * 4)) = _ := (HGe.out.below.cell (by rw [block_add]; exact HAd.out)).trans HQ0.out
              have q1 : w'.cell? ⟨ad.block, (ad.add (i * 4)).off + 1, none⟩ = _ := (HGe.out.below.cell (by exact HAd.out)).trans HQ1.out
              have q2 : w'.cell? ⟨ad.block, (ad.add (i * 4)).off + 2, none⟩ = _ := (HGe.out.below.cell (by exact HAd.out)).trans HQ2.out
              have q3 : w'.cell? ⟨ad.block, (ad.add (i * 4)).off + 3, none⟩ = _ := (HGe.out.below.cell (by exact HAd.out)).trans HQ3.out
              go_simp
              exact Gives3.of rfl (GR.refl 6 _) rfl (HJ.out.pure 6)
            · have hnew := Blk.new w' 61 (pvF x).toArray
              have hgn : Grew w' (w'.alloc (.cells (pvF x).toArray 61)) := (Grew.refl w').alloc _
              have HN := hid hnew
              have HGn := hid hgn
              unfold pvF at hA HN HGn
              clear hnew hgn
              go_simp
              have hsz := HGW.out.size
              exact Gives3.of rfl (GR.grew (j := 7) HGn.out) ⟨w'.heap.size, rfl, HN.out, by have := HM2.out; omega, fun hk => by have := HA2.out _ hk; omega⟩ ((HJ.out.grew HGn.out).pure 7)
            · obtain ⟨h1, Hn, hv, hbn, _, _⟩ := hA
              have hown := HJ.out.1 HFi.out
              obtain ⟨A3, c3, w2', hrun, r1, r2, r3⟩ := run_catR (P := Tryz.prog) 23 23 61 (.agg #[.int .i64 0, .int .i64 0, .int .i64 0, .slice none 0 0]) 4 48 Tryz.underlying23 rpart_info9 rfl (by decide) w' (M + 1) (by have := HGW.out.size; have := HM2.out; omega) A' i c' (ls.flatMap pvF) hown (some ⟨Hn, 0, none⟩) 1 1 (pvF x) rfl (pvF_ok x) (by intro e; cases e) (blk_row hbn) (by omega) (by omega)
              have HR1 := hid r1
              have HR2 := hid r2
              have HR3 : Hid (RowTo wr A' A3) := hid (by
                rcases r3 with r3 | ⟨q, e1, e2⟩
                · exact .inl r3
                · exact .inr ⟨q, e1, Nat.le_trans HGW.out.size e2⟩)
              clear hown hbn r1 r2 r3
              simp only [execOp, resolve, invoke, builtin, Sem.run_bind, Sem.run_pure, Result.andThen_ok, List.map_toArray, List.map_cons, List.map_nil, h1, hv, hrun]
              refine Gives3.of rfl ?_ ?_ ?_
              · exact HR2.out
              · exact ⟨A3, c3, rfl, HR1.out, HR3.out⟩
              · exact HJ.out.app HR2.out HA1.out
            · go_simp
              exact Gives3.of rfl (GR.refl 9 _) rfl (HJ.out.pure 9)
          · intro a w3' hgw hs hf hJ _
            have h8 := hf 8 (by decide)
            have h9 := hf 9 (by decide)
            simp only [slotOf, GF, List.getD_cons_succ, List.getD_cons_zero] at h8 h9
            obtain ⟨A3, c3, ev, hrow, hto⟩ := h8
            obtain ⟨fn, rfl, hft⟩ := hs.put
            rw [hft] at ev h9
            have hbM := hJ.2
            have q1 := hbM.cell 2
            have q2 := hbM.frozen 2
            simp only [List.getElem?_toArray, List.getElem?_cons_zero, List.getElem?_cons_succ] at q1
            have HbM := hid hbM
            have Hrow := hid hrow
            have HTo := hid hto
            have HGw := hid hgw
            clear hf hft hs hgw hJ hbM hrow hto
            simp only [List.drop_succ_cons, List.drop_zero, putAll, List.foldl_cons, List.foldl_nil, Act.put, List.setIfInBounds_toArray, List.set_cons_succ, List.set_cons_zero, ev, h9]
            clear ev h9
            go_wp2_with fail
            have hks : Kept (· = M) w3' (w3'.setCell ⟨M, 2, none⟩ (.slice A3 (i + 1) c3)) := (Kept.refl (· = M) w3').setCell (p := ⟨M, 2, none⟩) (fun _ => rfl) _
            have hbn := HbM.out.put 2 (.slice A3 (i + 1) c3)
            simp only [List.setIfInBounds_toArray, List.set_cons_zero, List.set_cons_succ] at hbn
            have HX2 := hid (Hrow.out.kept hks (fun q hq e => by have := Row.at_base Hrow.out q ⟨_, hq, rfl⟩; omega))
            have HX3 := hid hbn
            have HX4 : Hid (Kept (fun k => M ≤ k) w2 (w3'.setCell ⟨M, 2, none⟩ (.slice A3 (i + 1) c3))) := hid ((HK.out.trans (HGw.out.mono (fun k _ h => Nat.le_of_lt (HA1.out k h)))).trans (hks.mono (fun k _ h => by omega)))
            have hall : Kept (fun k => AtRow A' k ∨ k = M) wr (w3'.setCell ⟨M, 2, none⟩ (.slice A3 (i + 1) c3)) := (HGw.out.mono (fun _ _ h => .inl h)).trans (hks.mono (fun _ _ h => .inr h))
            have HX5 := hid (HR1.out.kept hall (fun q hq hF => by
              have h1 := HA3.out q ⟨_, hq, rfl⟩
              rcases hF with hF | hF
              · exact HAp.out q ⟨_, hq, rfl⟩ hF
              · omega))
            have HX7 : Hid (∀ q, AtRow A0 q → ¬ AtRow A3 q) := hid (fun q hq hq3 => by
              rcases HTo.out with h4 | ⟨q', e1, e2⟩
              · rw [h4] at hq3; exact HAp.out q hq hq3
              · rw [e1] at hq3
                obtain ⟨ad', e3, e4⟩ := hq3
                cases e3
                simp only at e4
                have := (HA3.out q hq).2
                omega)
            clear hks hbn hall
            go_round
            case rel => exact ⟨i + 1, A3, c3, by go_num, by omega, hid ⟨by rw [HX.out, List.flatMap_append]; simpa using HX2.out, HX3.out, HX4.out, HX5.out, HX7.out⟩⟩
            case measure => simp [intOf]; omega
        · obtain rfl : m = i := by omega
          have hvl : vs.take m = vs := by rw [EM.out, List.take_length]
          rw [hvl] at hrow
          have hb1 := HB1.out.kept hkp (by omega)
          have HMe : Hid (∀ wf, Kept (· = G + 1) wr wf → MethAt wf ⟨sel, lits, A0, c0, vs, A', c'⟩) := hid (fun wf hk => by
            refine ⟨HS.out, ?_, by show lits.length ≤ 100; have := EN.out; omega, ?_, by show vs.length ≤ 100; have := EM.out; omega⟩
            · exact row_lits EN.out (hrow1.kept hk (fun q hq e => by have := Row.at_base hrow1 q ⟨_, hq, rfl⟩; omega)) (fun x hx => HA.out.1 x hx)
            · refine row_parts EM.out (hrow.kept hk (fun q hq e => by have := Row.at_base hrow q ⟨_, hq, rfl⟩; omega)) (fun v hv => ?_)
              exact (HP.out.1 v hv).grew (hk.grew hgr (fun q e => by have := HG.out; omega)))
          have HLs : Hid (lits.length = n ∧ vs.length = m) := hid ⟨EN.out.symm, EM.out.symm⟩
          have n0 := hbk.cell 0
          have n1 := hbk.cell 1
          have n2 := hbk.cell 2
          have r0 := hb1.cell 0
          have r1 := hb1.cell 1
          have r2 := hb1.cell 2
          have k0 := hb1.frozen 0
          have k1 := hb1.frozen 1
          have k2 := hb1.frozen 2
          simp only [List.getElem?_toArray, List.getElem?_cons_zero, List.getElem?_cons_succ] at n0 n1 n2 r0 r1 r2
          have HB1' := hid hb1
          have HGr := hid hgr
          clear HI hrow hbk hkp hrow1 hap hgr hb0 hvl
          go_wp2_with fail
          refine bodyPost_ret (v := .agg #[.string sel, .slice A0 n c0, .slice A' m c']) (rres_meth1 rfl _ (G + 1) rfl _ _ _ _ (HB1'.out.put3 _ _ _)) rfl ?_
          have hk9 := kept3 (Kept.refl (· = G + 1) wr) (g := G + 1) (fun _ => rfl) (.string sel) (.slice A0 n c0) (.slice A' m c')
          refine ⟨⟨sel, lits, A0, c0, vs, A', c'⟩, ?_, rfl, HMe.out _ hk9, hk9.grew HGr.out (fun q e => by have := HG.out; omega)⟩
          rw [mvCells, HLs.out.1, HLs.out.2]
end Go.Proofs.YtjdgcgpidhljpaaGreatDoor
end

section
/- Stage 9, the document's own: Encode. Written by tools/gen_muh.py. -/
namespace Go.Proofs.YtjdgcgpidhljpaaGreatDoor
open Go.RowKit

/-- Bytes, and how many. -/
def At8 (w : World) (A : Option Addr) (n : Nat) (xs : List Nat) : Prop := n = xs.length ∧ NumsAt .u8 w w.heap.size A xs
theorem At8.grew {w w' : World} {A : Option Addr} {n : Nat} {xs : List Nat} (h : At8 w A n xs) (hg : Grew w w') : At8 w' A n xs := ⟨h.1, h.2.grew hg⟩
theorem NumsAt.nil9 (w : World) : NumsAt .u8 w w.heap.size none [] := fun h => absurd h (by simp)
def PutP (w : World) (L : List Nat) (e : Ending) (w' : World) : Prop := ∃ A' c' n, e = .returned (.slice A' n c') ∧ At8 w' A' n L ∧ Grew w w'
theorem putn_c {w : World} {A : Option Addr} {n c : Nat} {xs : List Nat} (h : At8 w A n xs) (k : Int) (hk : Vi.I64 k) (hl : xs.length ≤ 500000000) :
    Calls Tryz.prog 28 #[.slice A n c, .agg #[.int .u8 0, .int .i64 k, .slice none 0 0, .string ⟨#[]⟩, .int .i64 0, .int .i64 0, .int .i64 0]] w (PutP w (xs ++ Vi.enc k)) := by
  obtain ⟨hn, ha⟩ := h
  subst hn
  refine (rput6_c A c xs ⟨⟨0, k, [], ⟨#[]⟩, 0, 0, 0⟩, none, 0⟩ w ha ⟨show (0 : Nat) < 256 by decide, hk, ⟨by simp, fun h => absurd h (by simp)⟩, by simp, show (0 : Nat) ≤ 9223372036854775807 by decide, fun ad e _ => by cases e⟩ (show xs.length + 10 * 0 + 0 + 10 ≤ 1000000000 by omega)).mono ?_
  rintro e w' ⟨A', c', L, he, hL, hL2, _, hg⟩
  have hp : Pk.put ⟨0, k, [], ⟨#[]⟩, 0, 0, 0⟩ = Vi.enc k := by unfold Pk.put; rw [if_pos rfl]
  rw [hp] at hL2
  exact ⟨A', c', L.length, he, ⟨by rw [hL2], by rw [← hL2]; exact hL⟩, hg⟩
theorem putt_c {w : World} {A : Option Addr} {n c : Nat} {xs : List Nat} (h : At8 w A n xs) (s : ByteArray) (hl : xs.length + s.size ≤ 500000000) :
    Calls Tryz.prog 28 #[.slice A n c, .agg #[.int .u8 2, .int .i64 0, .slice none 0 0, .string s, .int .i64 0, .int .i64 0, .int .i64 0]] w (PutP w (xs ++ Mt.encText (Pk.natsOf s))) := by
  obtain ⟨hn, ha⟩ := h
  subst hn
  refine (rput6_c A c xs ⟨⟨2, 0, [], s, 0, 0, 0⟩, none, 0⟩ w ha ⟨show (2 : Nat) < 256 by decide, show Vi.I64 0 by unfold Vi.I64; decide, ⟨by simp, fun h => absurd h (by simp)⟩, by simp, show (0 : Nat) ≤ 9223372036854775807 by decide, fun ad e _ => by cases e⟩ (show xs.length + 10 * 0 + s.size + 10 ≤ 1000000000 by omega)).mono ?_
  rintro e w' ⟨A', c', L, he, hL, hL2, _, hg⟩
  have hp : Pk.put ⟨2, 0, [], s, 0, 0, 0⟩ = Mt.encText (Pk.natsOf s) := by
    unfold Pk.put Mt.encText
    rw [if_neg (show ¬ (2 : Nat) = 0 by decide), if_neg (show ¬ (2 : Nat) = 1 by decide), Pk.natsOf_len]
  rw [hp] at hL2
  exact ⟨A', c', L.length, he, ⟨by rw [hL2], by rw [← hL2]; exact hL⟩, hg⟩
theorem p1_start (s : ByteArray) (l : List Mt.Lit) : ([] ++ Mt.encText (Pk.natsOf s)) ++ Vi.enc (l.length : Int) = pre1 s l 0 := by
  simp [pre1, Mt.encLits]
theorem p1_step {s : ByteArray} {l : List Mt.Lit} {i : Nat} {x : Mt.Lit} (hx : l[i]? = some x) : (pre1 s l i ++ Vi.enc ((x.k : Nat) : Int)) ++ Mt.encText (Pk.natsOf x.s) = pre1 s l (i + 1) := by
  rw [pre1, pre1, List.take_add_one, hx]
  simp [Mt.encLits_snoc, Mt.encLit]
theorem p2_start (s : ByteArray) (l : List Mt.Lit) (ps : List Mt.Part) : pre1 s l l.length ++ Vi.enc (ps.length : Int) = pre2 s l ps 0 := by
  simp [pre1, pre2, Mt.encParts]
theorem p2_step {s : ByteArray} {l : List Mt.Lit} {ps : List Mt.Part} {i : Nat} {x : Mt.Part} (hx : ps[i]? = some x) (hb : ∀ y ∈ x.code, y < 256) : (((pre2 s l ps i ++ Vi.enc x.outer) ++ Vi.enc x.args) ++ Vi.enc x.temps) ++ Mt.encText (Pk.natsOf (Pk.strB x.code)) = pre2 s l ps (i + 1) := by
  rw [pre2, pre2, List.take_add_one, hx, Mt.nats_of_str hb]
  simp [Mt.encParts_snoc, Mt.encPart]
/-- What the document's Encode answers. -/
def REncPost (w : World) (m : Mt.Meth) (e : Ending) (w' : World) : Prop :=
  ∃ A c bs, ∃ k : Int, e = .returned (.tuple #[.slice A (List.length bs) c, .int .i64 k]) ∧ NumsAt .u8 w' w'.heap.size A bs ∧ Grew w w' ∧ ((Mt.fitsAll m = true ∧ bs = Mt.enc m ∧ k = 0) ∨ (Mt.fitsAll m = false ∧ bs = [] ∧ k = 1))
theorem fits_not {m : Mt.Meth} (h : ¬ (m.sel.size ≤ 1024 ∧ m.lits.length ≤ 64 ∧ (∀ x ∈ m.lits, Mt.litFits x = true) ∧ m.parts.length ≤ 64 ∧ ∀ x ∈ m.parts, Mt.partFits x = true)) : Mt.fitsAll m = false := by
  cases hf : Mt.fitsAll m
  · rfl
  · exfalso
    apply h
    simp only [Mt.fitsAll, Bool.and_eq_true, decide_eq_true_eq] at hf
    exact ⟨hf.1, hf.2.1, fun x hx => List.all_eq_true.1 hf.2.2.1 x hx, hf.2.2.2.1, fun x hx => List.all_eq_true.1 hf.2.2.2.2 x hx⟩
theorem fits_yes {m : Mt.Meth} (h : m.sel.size ≤ 1024 ∧ m.lits.length ≤ 64 ∧ (∀ x ∈ m.lits, Mt.litFits x = true) ∧ m.parts.length ≤ 64 ∧ ∀ x ∈ m.parts, Mt.partFits x = true) : Mt.fitsAll m = true := by
  simp only [Mt.fitsAll, Bool.and_eq_true, decide_eq_true_eq]
  exact ⟨h.1, h.2.1, List.all_eq_true.2 h.2.2.1, h.2.2.2.1, List.all_eq_true.2 h.2.2.2.2⟩
set_option maxRecDepth 100000 in
set_option maxHeartbeats 8000000 in
theorem rencode_c (v : MV) (w : World) (h : MethArg w v) : Calls Tryz.prog 12 #[.agg (mvCells v)] w (REncPost w v.m) := by
  have HG1 := hid ((Grew.refl w).alloc (.cells (mvCells v) 25))
  have HBk := hid (Blk.new w 25 (mvCells v))
  have HML := hid (h.lits.grew HG1.out)
  have HMP := hid (h.parts.grew HG1.out)
  have HNo : Hid (¬ (v.sel.size ≤ 1024 ∧ v.lits.length ≤ 64 ∧ (∀ x ∈ v.lits, Mt.litFits x = true) ∧ v.vs.length ≤ 64 ∧ ∀ x ∈ v.vs, Mt.partFits x.p = true) → Mt.fitsAll v.m = false) := hid (fun hn => fits_not (fun hh => hn ⟨hh.1, hh.2.1, hh.2.2.1, by have := hh.2.2.2.1; rwa [MV.m, List.length_map] at this, fun x hx => hh.2.2.2.2 x.p (List.mem_map.2 ⟨x, hx, rfl⟩)⟩))
  have HYes : Hid (v.sel.size ≤ 1024 ∧ v.lits.length ≤ 64 ∧ (∀ x ∈ v.lits, Mt.litFits x = true) ∧ v.vs.length ≤ 64 ∧ (∀ x ∈ v.vs, Mt.partFits x.p = true) → Mt.fitsAll v.m = true) := hid (fun hh => fits_yes ⟨hh.1, hh.2.1, hh.2.2.1, by rw [MV.m, List.length_map]; exact hh.2.2.2.1, fun x hx => by
    obtain ⟨y, hy, rfl⟩ := List.mem_map.1 hx
    exact hh.2.2.2.2 y hy⟩)
  have HEn : Hid (Mt.enc v.m = pre2 v.sel v.lits (v.vs.map (·.p)) (v.vs.map (·.p)).length) := hid (by rw [pre2_end]; rfl)
  clear h
  generalize v.m = M at *
  obtain ⟨s, l, A1, c1, vs, A2, c2⟩ := v
  unfold mvCells at *
  simp only at HG1 HBk HML HMP HNo HYes HEn ⊢
  obtain ⟨n1, en1⟩ : ∃ n1, n1 = l.length := ⟨_, rfl⟩
  obtain ⟨n2, en2⟩ : ∃ n2, n2 = vs.length := ⟨_, rfl⟩
  have HN1 := hid en1
  have HN2 := hid en2
  rw [← en1] at HG1 HBk HML HMP HNo HYes ⊢
  rw [← en2] at HG1 HBk HML HMP HNo HYes ⊢
  clear en1 en2
  generalize hW : w.alloc (.cells #[.string s, .slice A1 n1 c1, .slice A2 n2 c2] 25) = W at HG1 HBk HML HMP
  obtain ⟨z0, z1, z2⟩ := mvc HBk.out (Grew.refl W)
  by_cases hs : s.size ≤ 1024
  · have f1 : ¬ (1024 : Int) < (s.size : Int) := by omega
    by_cases h1 : n1 ≤ 64
    · have f2 : ¬ (64 : Int) < (n1 : Int) := by omega
      by_cases h2 : n2 ≤ 64
      · have f3 : ¬ (64 : Int) < (n2 : Int) := by omega
        have HT0 := hid (putt_c (c := 0) (⟨rfl, NumsAt.nil9 W⟩ : At8 W none 0 []) s (by simp; omega))
        subst hW
        go_enter Tryz.func12, Tryz.ntmps12
        go_wp2_with fail
        generalize w.alloc (.cells #[.string s, .slice A1 n1 c1, .slice A2 n2 c2] 25) = W at *
        refine HT0.out.mono ?_
        rintro e w3 ⟨A3, c3, n3, rfl, h3, hg3⟩
        have HG3 := hid hg3
        have hlen3 : ([] ++ Mt.encText (Pk.natsOf s)).length ≤ 2000 := by
          have := encText_len (Pk.natsOf s)
          rw [Pk.natsOf_len] at this
          rw [List.nil_append]; omega
        have HT1 := hid (putn_c (c := c3) h3 ((n1 : Nat) : Int) (by unfold Vi.I64; omega) (by omega))
        clear z0 z1 z2 h3 hg3 HT0
        obtain ⟨z0, z1, z2⟩ := mvc HBk.out HG3.out
        have HL3 := hid hlen3
        clear hlen3
        go_wp2_with fail
        refine HT1.out.mono ?_
        rintro e w4 ⟨A4, c4, n4, rfl, h4, hg4⟩
        have HG4 := hid (HG3.out.trans hg4)
        have HI4 : Hid (At8 w4 A4 n4 (pre1 s l 0) ∧ (pre1 s l 0).length ≤ 4000 + 3000 * 0) := hid (by
          have e1 := p1_start s l
          rw [← HN1.out] at e1
          rw [e1] at h4
          refine ⟨h4, ?_⟩
          rw [← e1, List.length_append]
          have h5 := (Vi.enc_len ((n1 : Nat) : Int)).2
          have h6 := HL3.out
          omega)
        clear z0 z1 z2 h4 hg4 HT1 HG3 HL3
        go_wp2_with fail
        go_loopw [4, 5] (fun s4 s5 wr => ∃ (i : Nat) (A : Option Addr) (n c : Nat), s5 = .int .i64 ((i : Nat) : Int) ∧ s4 = .slice A n c ∧ i ≤ n1 ∧ Grew W wr ∧ Hid (At8 wr A n (pre1 s l i) ∧ (pre1 s l i).length ≤ 4000 + 3000 * i) ∧ Hid (∀ j x, j < i → l[j]? = some x → Mt.litFits x = true)) (fun _ s5 _ => n1 - (intOf s5).toNat)
        case atStart => exact ⟨0, A4, n4, c4, rfl, rfl, Nat.zero_le _, HG4.out, HI4, hid (fun j x hj => by omega)⟩
        case round =>
          clear HI4 HG4
          obtain ⟨i, A, n, c, rfl, rfl, hi, hg, HI, HJ⟩ := hrel
          have HG := hid hg
          obtain ⟨z0, z1, z2⟩ := mvc HBk.out hg
          clear hg
          by_cases hlt : i < n1
          · have f4 : (i : Int) < n1 := by omega
            obtain ⟨ad, x, rfl, hx, q0, q1, hadl⟩ := argLit_at HML.out HG.out (i := i) (by rw [← HN1.out]; exact hlt)
            have hxm := List.mem_of_getElem? hx
            have HXk := hid (HML.out.1 x hxm)
            have HStep := hid (p1_step (s := s) hx)
            have HJ2 : Hid (Mt.litFits x = true → ∀ j y, j < i + 1 → l[j]? = some y → Mt.litFits y = true) := hid (fun hf j y hj hy => by
              rcases Nat.lt_or_ge j i with h1 | h1
              · exact HJ.out j y h1 hy
              · obtain rfl : j = i := by omega
                rw [hx] at hy
                obtain rfl := Option.some.inj hy
                exact hf)
            have HXn : Hid (Mt.litFits x = false → Mt.fitsAll M = false) := hid (fun hf => HNo.out (fun hh => by
              have := hh.2.2.1 x hxm
              rw [hf] at this; cases this))
            clear hx hxm
            obtain ⟨k, xs⟩ := x
            unfold Mt.litFits at HJ2 HXn
            simp only at q0 q1 HXk HStep HJ2 HXn
            by_cases hk : k ≤ 2
            · have f5 : ¬ (2 : Int) < ((k : Nat) : Int) := by omega
              by_cases hxs : xs.size ≤ 1024
              · have f6 : ¬ (1024 : Int) < (xs.size : Int) := by omega
                replace HJ2 := hid (HJ2.out (by rw [decide_eq_true hk, decide_eq_true hxs]; rfl))
                have hwk : IntKind.i64.wrap ((k : Nat) : Int) = ((k : Nat) : Int) := by unfold IntKind.wrap; simp [IntKind.bits, IntKind.signed]; omega
                have HT := hid (putn_c (c := c) HI.out.1 ((k : Nat) : Int) (by unfold Vi.I64; omega) (by have := HI.out.2; omega))
                have HLn := hid HI.out.2
                clear HI HXn
                go_wp2_with fail
                refine HT.out.mono ?_
                rintro e w5 ⟨A5, c5, n5, rfl, h5, hg5⟩
                have HG5 := hid (HG.out.trans hg5)
                have hl5 : (pre1 s l i ++ Vi.enc ((k : Nat) : Int)).length ≤ 4000 + 3000 * i + 10 := by
                  rw [List.length_append]
                  have h6 := (Vi.enc_len ((k : Nat) : Int)).2
                  have h7 := HLn.out
                  omega
                have HT5 := hid (putt_c (c := c5) h5 xs (by omega))
                have HLn5 := hid hl5
                have p0 := (hg5.below.cell (p := ad.add (i * 2)) (by rw [block_add]; exact hadl)).trans q0
                have p1 := (hg5.below.cell (p := ⟨ad.block, (ad.add (i * 2)).off + 1, none⟩) hadl).trans q1
                clear z0 z1 z2 q0 q1 h5 hg5 hl5 HT
                obtain ⟨z0, z1, z2⟩ := mvc HBk.out HG5.out
                go_wp2_with fail
                refine HT5.out.mono ?_
                rintro e w6 ⟨A6, c6, n6, rfl, h6, hg6⟩
                have HI6 : Hid (At8 w6 A6 n6 (pre1 s l (i + 1)) ∧ (pre1 s l (i + 1)).length ≤ 4000 + 3000 * (i + 1)) := hid (by
                  rw [HStep.out] at h6
                  refine ⟨h6, ?_⟩
                  rw [← HStep.out, List.length_append]
                  have h8 := encText_len (Pk.natsOf xs)
                  rw [Pk.natsOf_len] at h8
                  have h9 := HLn5.out
                  omega)
                have HG6 := hid (HG5.out.trans hg6)
                clear h6 hg6 z0 z1 z2 p0 p1 HT5
                go_wp2_with fail
                go_round
                case rel => exact ⟨i + 1, A6, n6, c6, by go_num, rfl, by omega, HG6.out, HI6, HJ2⟩
                case measure => simp [intOf]; omega
              · have f6 : (1024 : Int) < (xs.size : Int) := by omega
                have HF := hid (HXn.out (by rw [decide_eq_false hxs, Bool.and_false]))
                go_wp2_with fail
                go_ret2
                exact ⟨none, 0, [], 1, rfl, NumsAt.nil9 _, HG1.out.trans HG.out, .inr ⟨HF.out, rfl, rfl⟩⟩
            · have f5 : (2 : Int) < ((k : Nat) : Int) := by omega
              have HF := hid (HXn.out (by rw [decide_eq_false hk, Bool.false_and]))
              go_wp2_with fail
              go_ret2
              exact ⟨none, 0, [], 1, rfl, NumsAt.nil9 _, HG1.out.trans HG.out, .inr ⟨HF.out, rfl, rfl⟩⟩
          · obtain rfl : n1 = i := by omega
            have HLa : Hid (∀ x ∈ l, Mt.litFits x = true) := hid (fun x hx => by
              obtain ⟨j, hj, rfl⟩ := List.mem_iff_getElem.1 hx
              exact HJ.out j _ (by rw [HN1.out]; exact hj) (List.getElem?_eq_getElem hj))
            have HT := hid (putn_c (c := c) HI.out.1 ((n2 : Nat) : Int) (by unfold Vi.I64; omega) (by have := HI.out.2; omega))
            have HLn := hid HI.out.2
            clear HI HJ hlt
            go_wp2_with fail
            refine HT.out.mono ?_
            rintro e w5 ⟨A5, c5, n5, rfl, h5, hg5⟩
            have HG5 := hid (HG.out.trans hg5)
            have HI5 : Hid (At8 w5 A5 n5 (pre2 s l (vs.map (·.p)) 0) ∧ (pre2 s l (vs.map (·.p)) 0).length ≤ 300000 + 3000 * 0) := hid (by
              have e1 := p2_start s l (vs.map (·.p))
              rw [List.length_map, ← HN2.out, ← HN1.out] at e1
              rw [e1] at h5
              refine ⟨h5, ?_⟩
              rw [← e1, List.length_append]
              have h6 := (Vi.enc_len ((n2 : Nat) : Int)).2
              have h7 := HLn.out
              omega)
            clear z0 z1 z2 h5 hg5 HT HLn HG
            go_wp2_with fail
            go_loopw [4, 6, 7] (fun s4 s6 _ wr => ∃ (i : Nat) (A : Option Addr) (n c : Nat), s6 = .int .i64 ((i : Nat) : Int) ∧ s4 = .slice A n c ∧ i ≤ n2 ∧ Grew W wr ∧ Hid (At8 wr A n (pre2 s l (vs.map (·.p)) i) ∧ (pre2 s l (vs.map (·.p)) i).length ≤ 300000 + 3000 * i) ∧ Hid (∀ j x, j < i → vs[j]? = some x → Mt.partFits x.p = true)) (fun _ s6 _ _ => n2 - (intOf s6).toNat)
            case atStart => exact ⟨0, A5, n5, c5, rfl, rfl, Nat.zero_le _, HG5.out, HI5, hid (fun j x hj => by omega)⟩
            case round =>
              clear HI5 HG5
              obtain ⟨i, A, n, c, rfl, rfl, hi, hg, HI, HJ⟩ := hrel
              have HG := hid hg
              obtain ⟨z0, z1, z2⟩ := mvc HBk.out hg
              clear hg
              by_cases hlt : i < n2
              · have f4 : (i : Int) < n2 := by omega
                obtain ⟨ad, x, rfl, hx, q0, q1, q2, q3, hadl⟩ := argPart_at HMP.out HG.out (i := i) (by rw [← HN2.out]; exact hlt)
                have hxm := List.mem_of_getElem? hx
                have HPo := hid (HMP.out.1 x hxm)
                have HStep := hid (p2_step (s := s) (l := l) (ps := vs.map (·.p)) (i := i) (x := x.p) (by rw [List.getElem?_map, hx]; rfl) HPo.out.1.1)
                have HJ2 : Hid (Mt.partFits x.p = true → ∀ j y, j < i + 1 → vs[j]? = some y → Mt.partFits y.p = true) := hid (fun hf j y hj hy => by
                  rcases Nat.lt_or_ge j i with h1 | h1
                  · exact HJ.out j y h1 hy
                  · obtain rfl : j = i := by omega
                    rw [hx] at hy
                    obtain rfl := Option.some.inj hy
                    exact hf)
                have HXn : Hid (Mt.partFits x.p = false → Mt.fitsAll M = false) := hid (fun hf => HNo.out (fun hh => by
                  have := hh.2.2.2.2 x hxm
                  rw [hf] at this; cases this))
                clear hx hxm
                obtain ⟨⟨po, pa, pt, code⟩, Ac, cc⟩ := x
                unfold Mt.partFits at HJ2 HXn
                simp only at q0 q1 q2 q3 HPo HStep HJ2 HXn
                have HVx := hid (fun (w' : World) (hg : Grew W w') => conv6 Ac cc code w' (NumsAt.of_bytes (HPo.out.1.grew hg)))
                have HSz : Hid ((Pk.strB code).size = code.length) := hid (Mt.strB_size code)
                have HBx := hid (Blk.new wr 61 #[.int .i64 po, .int .i64 pa, .int .i64 pt, .slice Ac code.length cc])
                have HGx := hid ((Grew.refl wr).alloc (.cells #[.int .i64 po, .int .i64 pa, .int .i64 pt, .slice Ac code.length cc] 61))
                generalize hcl : code.length = cl at HBx HGx HVx HJ2 HXn HSz q3
                clear hcl
                by_cases g1 : po < -1
                · have HF := hid (HXn.out (by simp; omega))
                  clear HJ2 HXn
                  go_wp2_with fail
                  go_ret2
                  exact ⟨none, 0, [], 1, rfl, NumsAt.nil9 _, HG1.out.trans (HG.out.trans HGx.out), .inr ⟨HF.out, rfl, rfl⟩⟩
                · by_cases g2 : 63 < po
                  · have HF := hid (HXn.out (by simp; omega))
                    clear HJ2 HXn
                    go_wp2_with fail
                    go_ret2
                    exact ⟨none, 0, [], 1, rfl, NumsAt.nil9 _, HG1.out.trans (HG.out.trans HGx.out), .inr ⟨HF.out, rfl, rfl⟩⟩
                  · by_cases g3 : pa < 0
                    · have HF := hid (HXn.out (by simp; omega))
                      clear HJ2 HXn
                      go_wp2_with fail
                      go_ret2
                      exact ⟨none, 0, [], 1, rfl, NumsAt.nil9 _, HG1.out.trans (HG.out.trans HGx.out), .inr ⟨HF.out, rfl, rfl⟩⟩
                    · by_cases g4 : 16 < pa
                      · have HF := hid (HXn.out (by simp; omega))
                        clear HJ2 HXn
                        go_wp2_with fail
                        go_ret2
                        exact ⟨none, 0, [], 1, rfl, NumsAt.nil9 _, HG1.out.trans (HG.out.trans HGx.out), .inr ⟨HF.out, rfl, rfl⟩⟩
                      · by_cases g5 : pt < 0
                        · have HF := hid (HXn.out (by simp; omega))
                          clear HJ2 HXn
                          go_wp2_with fail
                          go_ret2
                          exact ⟨none, 0, [], 1, rfl, NumsAt.nil9 _, HG1.out.trans (HG.out.trans HGx.out), .inr ⟨HF.out, rfl, rfl⟩⟩
                        · by_cases g6 : 16 < pt
                          · have HF := hid (HXn.out (by simp; omega))
                            clear HJ2 HXn
                            go_wp2_with fail
                            go_ret2
                            exact ⟨none, 0, [], 1, rfl, NumsAt.nil9 _, HG1.out.trans (HG.out.trans HGx.out), .inr ⟨HF.out, rfl, rfl⟩⟩
                          · by_cases g7 : cl ≤ 512
                            · have f9 : ¬ (512 : Int) < (cl : Int) := by omega
                              replace HJ2 := hid (HJ2.out (by simp only [Bool.and_eq_true, decide_eq_true_eq]; omega))
                              have HT := hid (putn_c (c := c) (HI.out.1.grew HGx.out) po (by unfold Vi.I64; omega) (by have := HI.out.2; omega))
                              have HLn := hid HI.out.2
                              have HGw := hid (HG.out.trans HGx.out)
                              clear HI HXn
                              go_wp2_with fail
                              generalize wr.alloc (.cells #[.int .i64 po, .int .i64 pa, .int .i64 pt, .slice Ac cl cc] 61) = wb at *
                              refine HT.out.mono ?_
                              rintro e w5 ⟨A5, c5, n5, rfl, h5, hg5⟩
                              have HG5 := hid (HGw.out.trans hg5)
                              have hl5 : (pre2 s l (vs.map (·.p)) i ++ Vi.enc po).length ≤ 300000 + 3000 * i + 10 := by
                                rw [List.length_append]
                                have h6 := (Vi.enc_len po).2
                                have h7 := HLn.out
                                omega
                              have HT5 := hid (putn_c (c := c5) h5 pa (by unfold Vi.I64; omega) (by omega))
                              have HLn5 := hid hl5
                              have HBx5 := hid (HBx.out.grew hg5)
                              have p1 := HBx5.out.cell 1
                              simp only [List.getElem?_toArray, List.getElem?_cons_zero, List.getElem?_cons_succ] at p1
                              clear z0 z1 z2 q0 q1 q2 q3 h5 hg5 hl5 HT
                              go_wp2_with fail
                              clear p1
                              refine HT5.out.mono ?_
                              rintro e w6 ⟨A6, c6, n6, rfl, h6, hg6⟩
                              have HG6 := hid (HG5.out.trans hg6)
                              have hl6 : ((pre2 s l (vs.map (·.p)) i ++ Vi.enc po) ++ Vi.enc pa).length ≤ 300000 + 3000 * i + 20 := by
                                rw [List.length_append]
                                have h6 := (Vi.enc_len pa).2
                                have h7 := HLn5.out
                                omega
                              have HT6 := hid (putn_c (c := c6) h6 pt (by unfold Vi.I64; omega) (by omega))
                              have HLn6 := hid hl6
                              have HBx6 := hid (HBx5.out.grew hg6)
                              have p2 := HBx6.out.cell 2
                              simp only [List.getElem?_toArray, List.getElem?_cons_zero, List.getElem?_cons_succ] at p2
                              clear h6 hg6 hl6 HT5
                              go_wp2_with fail
                              clear p2
                              refine HT6.out.mono ?_
                              rintro e w7 ⟨A7, c7, n7, rfl, h7, hg7⟩
                              have HG7 := hid (HG6.out.trans hg7)
                              have hl7 : (((pre2 s l (vs.map (·.p)) i ++ Vi.enc po) ++ Vi.enc pa) ++ Vi.enc pt).length ≤ 300000 + 3000 * i + 30 := by
                                rw [List.length_append]
                                have h6 := (Vi.enc_len pt).2
                                have h7 := HLn6.out
                                omega
                              have HT7 := hid (putt_c (c := c7) h7 (Pk.strB code) (by have := HSz.out; omega))
                              have HLn7 := hid hl7
                              have HBx7 := hid (HBx6.out.grew hg7)
                              have p3 := HBx7.out.cell 3
                              simp only [List.getElem?_toArray, List.getElem?_cons_zero, List.getElem?_cons_succ] at p3
                              have hcv := HVx.out w7 HG7.out
                              clear h7 hg7 hl7 HT6
                              go_wp2_with fail
                              clear p3
                              refine HT7.out.mono ?_
                              rintro e w8 ⟨A8, c8, n8, rfl, h8, hg8⟩
                              have HI8 : Hid (At8 w8 A8 n8 (pre2 s l (vs.map (·.p)) (i + 1)) ∧ (pre2 s l (vs.map (·.p)) (i + 1)).length ≤ 300000 + 3000 * (i + 1)) := hid (by
                                rw [HStep.out] at h8
                                refine ⟨h8, ?_⟩
                                rw [← HStep.out, List.length_append]
                                have h6 := encText_len (Pk.natsOf (Pk.strB code))
                                rw [Pk.natsOf_len] at h6
                                have h9 := HLn7.out
                                have h10 := HSz.out
                                omega)
                              have HG8 := hid (HG7.out.trans hg8)
                              clear h8 hg8 hcv HT7
                              go_wp2_with fail
                              go_round
                              case rel => exact ⟨i + 1, A8, n8, c8, by go_num, rfl, by omega, HG8.out, HI8, HJ2⟩
                              case measure => simp [intOf]; omega
                            · have f9 : (512 : Int) < (cl : Int) := by omega
                              have HF := hid (HXn.out (by simp; omega))
                              clear HJ2 HXn
                              go_wp2_with fail
                              go_ret2
                              exact ⟨none, 0, [], 1, rfl, NumsAt.nil9 _, HG1.out.trans (HG.out.trans HGx.out), .inr ⟨HF.out, rfl, rfl⟩⟩
              · obtain rfl : n2 = i := by omega
                have HPa : Hid (∀ x ∈ vs, Mt.partFits x.p = true) := hid (fun x hx => by
                  obtain ⟨j, hj, rfl⟩ := List.mem_iff_getElem.1 hx
                  exact HJ.out j _ (by rw [HN2.out]; exact hj) (List.getElem?_eq_getElem hj))
                have HF := hid (HYes.out ⟨hs, h1, HLa.out, h2, HPa.out⟩)
                have hb : At8 wr A n (Mt.enc M) := by
                  have h9 := HI.out.1
                  have e9 := HEn.out
                  rw [List.length_map, ← HN2.out] at e9
                  rw [e9]; exact h9
                have HB9 := hid hb
                clear hb HI HJ
                go_wp2_with fail
                go_ret2
                exact ⟨A, c, Mt.enc M, 0, by rw [← HB9.out.1]; rfl, HB9.out.2, HG1.out.trans HG.out, .inl ⟨HF.out, rfl, rfl⟩⟩
      · have f3 : (64 : Int) < (n2 : Int) := by omega
        have HF := hid (HNo.out (fun hh => h2 hh.2.2.2.1))
        subst hW
        go_enter Tryz.func12, Tryz.ntmps12
        go_wp2_with fail
        go_ret2
        exact ⟨none, 0, [], 1, rfl, NumsAt.nil9 _, HG1.out, .inr ⟨HF.out, rfl, rfl⟩⟩
    · have f2 : (64 : Int) < (n1 : Int) := by omega
      have HF := hid (HNo.out (fun hh => h1 hh.2.1))
      subst hW
      go_enter Tryz.func12, Tryz.ntmps12
      go_wp2_with fail
      go_ret2
      exact ⟨none, 0, [], 1, rfl, NumsAt.nil9 _, HG1.out, .inr ⟨HF.out, rfl, rfl⟩⟩
  · have f1 : (1024 : Int) < (s.size : Int) := by omega
    have HF := hid (HNo.out (fun hh => hs hh.1))
    subst hW
    go_enter Tryz.func12, Tryz.ntmps12
    go_wp2_with fail
    go_ret2
    exact ⟨none, 0, [], 1, rfl, NumsAt.nil9 _, HG1.out, .inr ⟨HF.out, rfl, rfl⟩⟩
end Go.Proofs.YtjdgcgpidhljpaaGreatDoor
end

section
/- Plain mathematics: a method read field by field, with looser bounds, as the document does. No program is named here. -/
namespace Go.Proofs.YtjdgcgpidhljpaaGreatDoor.Mt
open Go.RowKit Pk

def r3 (m : Meth) : List Nat := Vi.enc (m.parts.length : Int) ++ encParts m.parts
def r2 (m : Meth) : List Nat := Vi.enc (m.lits.length : Int) ++ (encLits m.lits ++ r3 m)
theorem enc_r2 (m : Meth) : enc m = encText (natsOf m.sel) ++ r2 m := rfl
/-- What is read of b holds for the method that b means, if there is one. -/
def If (b : List Nat) (P : Meth → Prop) : Prop := ∀ m, decode b = some m → P m
theorem if_none {b : List Nat} {P : Meth → Prop} (h : If b P) (hn : ∀ m, ¬ P m) : decode b = none := by
  cases hd : decode b with
  | none => rfl
  | some m => exact absurd (h m hd) (hn m)
theorem fits_of {b : List Nat} (hb : ∀ x ∈ b, x < 256) {m : Meth} (h : decode b = some m) : fitsAll m = true ∧ b = enc m := (decode_some hb).1 h
theorem fits_parts {m : Meth} (h : fitsAll m = true) : m.sel.size ≤ 1024 ∧ m.lits.length ≤ 64 ∧ (∀ x ∈ m.lits, litFits x = true) ∧ m.parts.length ≤ 64 ∧ ∀ x ∈ m.parts, partFits x = true := by
  simp only [fitsAll, Bool.and_eq_true, decide_eq_true_eq] at h
  exact ⟨h.1, h.2.1, fun x hx => List.all_eq_true.1 h.2.2.1 x hx, h.2.2.2.1, fun x hx => List.all_eq_true.1 h.2.2.2.2 x hx⟩
theorem d1 {b : List Nat} (hb : ∀ x ∈ b, x < 256) {t : List Nat} {st : St} (h : text (some b) 1024 = (t, st)) : If b fun m => strB t = m.sel ∧ st = some (r2 m) := fun m hm => by
  obtain ⟨hf, he⟩ := fits_of hb hm
  have h1 := fits_parts hf
  rw [he, enc_r2, text_enc _ _ (by rw [natsOf_len]; have := h1.1; omega) (by decide)] at h
  cases h
  exact ⟨nats_back _, rfl⟩
theorem d2 {b : List Nat} (hb : ∀ x ∈ b, x < 256) {st st' : St} {n : Int} (h : int st (-1) 64 = (n, st')) (H : If b fun m => st = some (r2 m)) : If b fun m => n = (m.lits.length : Int) ∧ st' = some (encLits m.lits ++ r3 m) := fun m hm => by
  obtain ⟨hf, _⟩ := fits_of hb hm
  have h1 := (fits_parts hf).2.1
  rw [H m hm, r2, int_enc (by unfold Vi.I64; omega) (by omega) (by omega)] at h
  cases h
  exact ⟨rfl, rfl⟩
theorem lits_drop {l : List Lit} {i : Nat} {x : Lit} (hx : l[i]? = some x) : encLits (l.drop i) = encLit x ++ encLits (l.drop (i + 1)) := by
  obtain ⟨hi, e⟩ := List.getElem?_eq_some_iff.1 hx
  rw [List.drop_eq_getElem_cons hi, e]
  rfl
theorem parts_drop {l : List Part} {i : Nat} {x : Part} (hx : l[i]? = some x) : encParts (l.drop i) = encPart x ++ encParts (l.drop (i + 1)) := by
  obtain ⟨hi, e⟩ := List.getElem?_eq_some_iff.1 hx
  rw [List.drop_eq_getElem_cons hi, e]
  rfl
/-- The number of a kind, as one byte. -/
def kq (n : Int) : Nat := if n < 0 then 255 else n.toNat
theorem d3 {b : List Nat} (hb : ∀ x ∈ b, x < 256) {st st1 st2 : St} {n N : Int} {t : List Nat} {i : Nat} {ls : List Lit} (h1 : int st (-1) 64 = (n, st1)) (h2 : text st1 1024 = (t, st2)) (hN : If b fun m => N = (m.lits.length : Int)) (hi : (i : Int) < N) (H : If b fun m => ls = m.lits.take i ∧ st = some (encLits (m.lits.drop i) ++ r3 m)) :
    If b fun m => ls ++ [⟨kq n, strB t⟩] = m.lits.take (i + 1) ∧ st2 = some (encLits (m.lits.drop (i + 1)) ++ r3 m) := fun m hm => by
  obtain ⟨hf, _⟩ := fits_of hb hm
  have hl := (fits_parts hf).2.2.1
  have hn := hN m hm
  have hlt : i < m.lits.length := by omega
  obtain ⟨x, hx⟩ : ∃ x, m.lits[i]? = some x := ⟨_, List.getElem?_eq_getElem hlt⟩
  have hxf := hl x (List.mem_of_getElem? hx)
  simp only [litFits, Bool.and_eq_true, decide_eq_true_eq] at hxf
  obtain ⟨e1, e2⟩ := H m hm
  rw [e2, lits_drop hx, encLit, List.append_assoc, List.append_assoc, int_enc (by unfold Vi.I64; omega) (by omega) (by omega)] at h1
  cases h1
  rw [text_enc _ _ (by rw [natsOf_len]; omega) (by decide)] at h2
  cases h2
  refine ⟨?_, rfl⟩
  rw [List.take_add_one, hx, e1, nats_back]
  have : kq ((x.k : Nat) : Int) = x.k := by unfold kq; rw [if_neg (by omega), Int.toNat_natCast]
  rw [this]
  rfl
theorem d4 {b : List Nat} {st : St} {N : Int} {i : Nat} {ls : List Lit} (hN : If b fun m => N = (m.lits.length : Int)) (hi : ¬ (i : Int) < N ∨ st = none) (H : If b fun m => ls = m.lits.take i ∧ st = some (encLits (m.lits.drop i) ++ r3 m)) : If b fun m => ls = m.lits ∧ st = some (r3 m) := fun m hm => by
  obtain ⟨e1, e2⟩ := H m hm
  rcases hi with hi | hi
  · have hn : m.lits.length ≤ i := by have := hN m hm; omega
    rw [List.take_of_length_le hn] at e1
    rw [List.drop_eq_nil_of_le hn] at e2
    exact ⟨e1, e2⟩
  · rw [hi] at e2; cases e2
theorem d5 {b : List Nat} (hb : ∀ x ∈ b, x < 256) {st st' : St} {n : Int} (h : int st (-1) 64 = (n, st')) (H : If b fun m => st = some (r3 m)) : If b fun m => n = (m.parts.length : Int) ∧ st' = some (encParts m.parts) := fun m hm => by
  obtain ⟨hf, _⟩ := fits_of hb hm
  have h1 := (fits_parts hf).2.2.2.1
  rw [H m hm, r3, int_enc (by unfold Vi.I64; omega) (by omega) (by omega)] at h
  cases h
  exact ⟨rfl, rfl⟩
theorem d6 {b : List Nat} (hb : ∀ x ∈ b, x < 256) {st st1 st2 st3 st4 : St} {x1 x2 x3 N : Int} {t : List Nat} {i : Nat} {ps : List Part} (h1 : int st (-1) 64 = (x1, st1)) (h2 : int st1 (-1) 64 = (x2, st2)) (h3 : int st2 (-1) 64 = (x3, st3)) (h4 : text st3 1024 = (t, st4)) (hN : If b fun m => N = (m.parts.length : Int)) (hi : (i : Int) < N) (H : If b fun m => ps = m.parts.take i ∧ st = some (encParts (m.parts.drop i))) :
    If b fun m => ps ++ [⟨x1, x2, x3, t⟩] = m.parts.take (i + 1) ∧ st4 = some (encParts (m.parts.drop (i + 1))) := fun m hm => by
  obtain ⟨hf, _⟩ := fits_of hb hm
  have hl := (fits_parts hf).2.2.2.2
  have hn := hN m hm
  have hlt : i < m.parts.length := by omega
  obtain ⟨x, hx⟩ : ∃ x, m.parts[i]? = some x := ⟨_, List.getElem?_eq_getElem hlt⟩
  have hxf := hl x (List.mem_of_getElem? hx)
  simp only [partFits, Bool.and_eq_true, decide_eq_true_eq] at hxf
  obtain ⟨e1, e2⟩ := H m hm
  rw [e2, parts_drop hx, encPart, List.append_assoc, List.append_assoc, List.append_assoc, int_enc (by unfold Vi.I64; omega) (by omega) (by omega)] at h1
  cases h1
  rw [int_enc (by unfold Vi.I64; omega) (by omega) (by omega)] at h2
  cases h2
  rw [int_enc (by unfold Vi.I64; omega) (by omega) (by omega)] at h3
  cases h3
  rw [text_enc _ _ (by omega) (by decide)] at h4
  cases h4
  refine ⟨?_, rfl⟩
  rw [List.take_add_one, hx, e1]
  rfl
theorem d7 {b : List Nat} {st : St} {N : Int} {i : Nat} {ps : List Part} (hN : If b fun m => N = (m.parts.length : Int)) (hi : ¬ (i : Int) < N ∨ st = none) (H : If b fun m => ps = m.parts.take i ∧ st = some (encParts (m.parts.drop i))) : If b fun m => ps = m.parts ∧ st = some [] := fun m hm => by
  obtain ⟨e1, e2⟩ := H m hm
  rcases hi with hi | hi
  · have hn : m.parts.length ≤ i := by have := hN m hm; omega
    rw [List.take_of_length_le hn] at e1
    rw [List.drop_eq_nil_of_le hn] at e2
    exact ⟨e1, e2⟩
  · rw [hi] at e2; cases e2
end Go.Proofs.YtjdgcgpidhljpaaGreatDoor.Mt
end

section
/- A region that draws its order, walked once for all its orders, where stores may come between the other operations: an invariant over the operations that are done; an operation without a slot is one of them. No program is named here. -/
namespace Go.Proofs.YtjdgcgpidhljpaaGreatDoor
open Go.RowKit

def factsB5 (ops : Array Oper) (dep n N : Nat) (D : List Tmp) : Bool :=
  decide (n ≤ ops.size) &&
  ((List.range n).all fun i => (((ops[i]?).map fun o => (match o.dst with | some d => decide (D.getD i 0 = d) && decide (d < N) | none => true) && o.guard.isNone && (o.after.all fun e => !Region.binds .any e || decide (e.on < i))).getD false)) && decide (D.length = n) &&
  ((List.range n).all fun i => (List.range n).all fun j => decide (i = j) || decide (D.getD i 0 ≠ D.getD j 0)) &&
  ((List.range ops.size).all fun i => decide (i < n) || ((List.range n).all fun j => reachB ops dep i j)) &&
  Region.seqB .any ops (ops.size - n) n ((List.range ops.size).map fun i => decide (i < n)).toArray
structure FactsOk5 (ops : Array Oper) (dep n N : Nat) (D : List Tmp) : Prop where
  le : n ≤ ops.size
  dst : ∀ i, i < n → ∃ o, ops[i]? = some o ∧ o.guard = none ∧ (∀ d, o.dst = some d → D.getD i 0 = d ∧ d < N ∧ d ∈ D)
  back : ∀ i o, i < n → ops[i]? = some o → ∀ e ∈ o.after, Region.binds .any e = true → e.on < i
  apart : ∀ i j, i < n → j < n → i ≠ j → D.getD i 0 ≠ D.getD j 0
  phase : ∀ i o, n ≤ i → ops[i]? = some o → ∀ j, j < n → reachB ops dep i j = true
  seq : Region.seqB .any ops (ops.size - n) n ((List.range ops.size).map fun i => decide (i < n)).toArray = true
theorem factsB5_ok {ops : Array Oper} {dep n N : Nat} {D : List Tmp} (h : factsB5 ops dep n N D = true) : FactsOk5 ops dep n N D := by
  unfold factsB5 at h
  simp only [Bool.and_eq_true, decide_eq_true_eq, List.all_eq_true, List.mem_range, Bool.or_eq_true] at h
  obtain ⟨⟨⟨⟨⟨h1, h2⟩, hl⟩, h3⟩, h4⟩, h5⟩ := h
  have h2' : ∀ i, i < n → ∃ o, ops[i]? = some o ∧ o.guard = none ∧ (∀ d, o.dst = some d → D.getD i 0 = d ∧ d < N ∧ d ∈ D) ∧ (∀ e ∈ o.after, Region.binds .any e = true → e.on < i) := by
    intro i hi
    have a1 := h2 i hi
    obtain ⟨o, ho⟩ : ∃ o, ops[i]? = some o := ⟨_, Array.getElem?_eq_getElem (by omega)⟩
    rw [ho] at a1
    have a2 : ((match o.dst with | some d => decide (D.getD i 0 = d) && decide (d < N) | none => true) && o.guard.isNone && (o.after.all fun e => !Region.binds .any e || decide (e.on < i))) = true := a1
    rw [Bool.and_eq_true, Bool.and_eq_true] at a2
    obtain ⟨⟨a3, a4⟩, a5⟩ := a2
    refine ⟨o, ho, Option.isNone_iff_eq_none.1 a4, fun d hd => ?_, fun x hx hb => ?_⟩
    · rw [hd] at a3
      simp only [Bool.and_eq_true, decide_eq_true_eq] at a3
      refine ⟨a3.1, a3.2, ?_⟩
      rw [← a3.1]
      have : i < D.length := by omega
      rw [List.getD_eq_getElem?_getD, List.getElem?_eq_getElem this]
      exact List.getElem_mem this
    · have := (Array.all_eq_true_iff_forall_mem.1 a5) x hx
      simpa [hb] using this
  refine ⟨h1, fun i hi => ?_, fun i o hi ho e he hb => ?_, fun i j hi hj hne => ?_, fun i o hi ho j hj => ?_, h5⟩
  · obtain ⟨o, b1, b2, b3, _⟩ := h2' i hi
    exact ⟨o, b1, b2, b3⟩
  · obtain ⟨o', b1, _, _, b6⟩ := h2' i hi
    obtain rfl : o = o' := Option.some.inj (ho.symm.trans b1)
    exact b6 e he hb
  · rcases h3 i hi j hj with h | h
    · exact absurd h hne
    · exact h
  · have hs : i < ops.size := (Array.getElem?_eq_some_iff.1 ho).1
    rcases h4 i hs with h | h
    · omega
    · exact h j hj

def StepOk5 (P : Program) (Q : Exit → Act → World → Prop) (D : List Tmp) (Al : List Nat) (φ : Nat → Value → World → Prop) (R0 : World → World → Prop) (R : Nat → World → World → Prop) (J : (Nat → Bool) → World → Prop) (a0 : Act) (w0 : World) (i : Nat) (o : Oper) : Prop :=
  ∀ a w f, R0 w0 w → J f w → f i = false → (∀ e ∈ o.after, Region.binds .any e = true → f e.on = true) → SameBut D a0 a → Ahead D φ a w o.after.toList →
    o.wp P a w (Gives3 (R i) (φ i) (J (updF f i)) (Al.contains i) o.dst a w) Q
/-- A store's end. -/
theorem Gives3.none {R : World → World → Prop} {F : Value → World → Prop} {J : World → Prop} {al : Bool} {a : Act} {w w' : World} (hal : al = false) (hg : R w w') (h : ∀ v, F v w') (hJ : J w') : Gives3 R F J al Option.none a w a w' := ⟨undef, rfl, hg, h _, hJ, fun h => by rw [hal] at h; cases h⟩
section
variable {P : Program} {ops : Array Oper} {Q : Exit → Act → World → Prop} {D : List Tmp} {Al : List Nat} {φ : Nat → Value → World → Prop} {R0 : World → World → Prop} {R : Nat → World → World → Prop} {J : (Nat → Bool) → World → Prop} {a0 : Act} {w0 : World} {dep n : Nat}

theorem FactsAt4.step5 {listed : Array Bool} {a : Act} {w w' : World} {i : Nat} {v : Value} {d : Tmp} (hR : May R0) (hRi : ∀ i w w', R i w w' → R0 w w') (hO : FactsOk5 ops dep n a0.tmps.size D) (hm : ∀ i j v w w', i < n → j < n → i ≠ j → reachB ops dep i j = false → φ i v w → R j w w' → φ i v w')
    (h : FactsAt4 ops D Al φ R0 R J a0 w0 n listed a w) (hi : i < n) (hsz : i < listed.size) (hd : D.getD i 0 = d) (hdN : d < a0.tmps.size) (hdD : d ∈ D) (hb : ∀ j, j < n → j ≠ i → listed.getD j false = true → reachB ops dep j i = false) (hg : R i w w') (hv : φ i v w') (hJ : J (updF (fun j => listed.getD j false) i) w') (hn : Al.contains i = true → IsNew v w w') : FactsAt4 ops D Al φ R0 R J a0 w0 n (listed.setIfInBounds i true) (a.put (some d) v) w' := by
  have same_i : slotOf D i (a.put (some d) v) = v := by
    unfold slotOf Act.eval
    rw [hd]
    simp [Act.put, h.same.size, hdN]
  have same_j : ∀ j, j < n → i ≠ j → slotOf D j (a.put (some d) v) = slotOf D j a := fun j hj hij => by
    have hne : d ≠ D.getD j 0 := by rw [← hd]; exact hO.apart i j hi hj hij
    unfold slotOf Act.eval
    generalize D.getD j 0 = dj at *
    simp [Act.put, Array.getElem?_setIfInBounds_ne hne]
  have new_j : ∀ j, j < n → Al.contains j = true → listed.getD j false = true → IsNew (slotOf D j a) w0 w' := fun j hj hA hl => by
    obtain ⟨g, h1, h2, h3⟩ := h.made j hj hA hl
    exact ⟨g, h1, h2, Nat.lt_of_lt_of_le h3 (hR.size (hRi i _ _ hg))⟩
  have apart_j : ∀ j, j < n → Al.contains i = true → Al.contains j = true → listed.getD j false = true → v ≠ slotOf D j a := fun j hj hA hB hl e => by
    obtain ⟨g, h1, h2, h3⟩ := h.made j hj hB hl
    obtain ⟨g', k1, k2, k3⟩ := hn hA
    rw [← e, k1] at h1
    simp only [Value.pointer.injEq, Option.some.injEq, Addr.mk.injEq] at h1
    omega
  refine ⟨hR.trans h.rel (hRi i _ _ hg), ⟨h.same.defers, ?_, fun t ht => ?_⟩, fun j hj hl => ?_, ?_, fun j hj hA hl => ?_, fun j k hj hk hjk hA hB hl hl2 => ?_⟩
  · simp [Act.put, h.same.size]
  · have hne : d ≠ t := by rintro rfl; exact ht hdD
    simp only [Act.put]
    rw [Array.getElem?_setIfInBounds_ne hne]
    exact h.same.rest t ht
  · by_cases hij : i = j
    · subst hij
      rw [same_i]; exact hv
    · rw [same_j j hj hij]
      have hl2 : listed.getD j false = true := by rwa [getD_set_ne false hij] at hl
      exact hm j i _ _ _ hj hi (fun e => hij e.symm) (hb j hj (fun e => hij e.symm) hl2) (h.fact j hj hl2) hg
  · have e : (fun j => (listed.setIfInBounds i true).getD j false) = updF (fun j => listed.getD j false) i := by
      funext j
      unfold updF
      by_cases hij : j = i
      · subst hij
        rw [if_pos rfl]
        simp [hsz]
      · rw [if_neg hij, getD_set_ne false (fun e => hij e.symm)]
    rw [e]
    exact hJ
  · by_cases hij : i = j
    · subst hij
      rw [same_i]
      obtain ⟨g, k1, k2, k3⟩ := hn hA
      exact ⟨g, k1, Nat.le_trans (hR.size h.rel) k2, k3⟩
    · rw [same_j j hj hij]
      exact new_j j hj hA (by rwa [getD_set_ne false hij] at hl)
  · by_cases hij : i = j
    · subst hij
      rw [same_i, same_j k hk hjk]
      exact apart_j k hk hA hB (by rwa [getD_set_ne false hjk] at hl2)
    · rw [same_j j hj hij]
      by_cases hik : i = k
      · subst hik
        rw [same_i]
        exact fun e => apart_j j hj hB hA (by rwa [getD_set_ne false hij] at hl) e.symm
      · rw [same_j k hk hik]
        exact h.parted j k hj hk hjk hA hB (by rwa [getD_set_ne false hij] at hl) (by rwa [getD_set_ne false hik] at hl2)

theorem FactsAt4.step0 {listed : Array Bool} {a : Act} {w w' : World} {i : Nat} {v : Value} (hR : May R0) (hRi : ∀ i w w', R i w w' → R0 w w') (hm : ∀ i j v w w', i < n → j < n → i ≠ j → reachB ops dep i j = false → φ i v w → R j w w' → φ i v w')
    (h : FactsAt4 ops D Al φ R0 R J a0 w0 n listed a w) (hi : i < n) (hsz : i < listed.size) (hAl : Al.contains i = false) (hany : ∀ u u' w, φ i u w → φ i u' w) (hb : ∀ j, j < n → j ≠ i → listed.getD j false = true → reachB ops dep j i = false) (hg : R i w w') (hv : φ i v w') (hJ : J (updF (fun j => listed.getD j false) i) w') : FactsAt4 ops D Al φ R0 R J a0 w0 n (listed.setIfInBounds i true) a w' := by
  refine ⟨hR.trans h.rel (hRi i _ _ hg), h.same, fun j hj hl => ?_, ?_, fun j hj hA hl => ?_, fun j k hj hk hjk hA hB hl hl2 => ?_⟩
  · by_cases hij : i = j
    · subst hij
      exact hany _ _ _ hv
    · have hl2 : listed.getD j false = true := by rwa [getD_set_ne false hij] at hl
      exact hm j i _ _ _ hj hi (fun e => hij e.symm) (hb j hj (fun e => hij e.symm) hl2) (h.fact j hj hl2) hg
  · have e : (fun j => (listed.setIfInBounds i true).getD j false) = updF (fun j => listed.getD j false) i := by
      funext j
      unfold updF
      by_cases hij : j = i
      · subst hij
        rw [if_pos rfl]
        simp [hsz]
      · rw [if_neg hij, getD_set_ne false (fun e => hij e.symm)]
    rw [e]
    exact hJ
  · have hij : i ≠ j := by rintro rfl; rw [hAl] at hA; cases hA
    obtain ⟨g, h1, h2, h3⟩ := h.made j hj hA (by rwa [getD_set_ne false hij] at hl)
    exact ⟨g, h1, h2, Nat.lt_of_lt_of_le h3 (hR.size (hRi i _ _ hg))⟩
  · have hij : i ≠ j := by rintro rfl; rw [hAl] at hA; cases hA
    have hik : i ≠ k := by rintro rfl; rw [hAl] at hB; cases hB
    exact h.parted j k hj hk hjk hA hB (by rwa [getD_set_ne false hij] at hl) (by rwa [getD_set_ne false hik] at hl2)
theorem wpAny_facts5 (hR : May R0) (hRi : ∀ i w w', R i w w' → R0 w w') (hNo : ∀ i o, i < n → ops[i]? = some o → o.dst = none → Al.contains i = false ∧ ∀ u u' w, φ i u w → φ i u' w) (hO : FactsOk5 ops dep n a0.tmps.size D) (hm : ∀ i j v w w', i < n → j < n → i ≠ j → reachB ops dep i j = false → φ i v w → R j w w' → φ i v w')
    (hstep : ∀ i o, i < n → ops[i]? = some o → StepOk5 P Q D Al φ R0 R J a0 w0 i o)
    (hend : ∀ a w, R0 w0 w → SameBut D a0 a → (∀ i, i < n → φ i (slotOf D i a) w) → J (fun j => decide (j < n)) w → (∀ i j, i < n → j < n → i ≠ j → Al.contains i = true → Al.contains j = true → slotOf D i a ≠ slotOf D j a) → wpList P ops Q (ops.toList.drop n) a w) :
    ∀ (k : Nat) (listed : Array Bool) (a : Act) (w : World), listed.size = ops.size → (∀ j, n ≤ j → j < ops.size → listed.getD j true = false) → leftN listed n = k → Closed ops listed →
      FactsAt4 ops D Al φ R0 R J a0 w0 n listed a w → wpAny P .any ops Q (k + (ops.size - n)) listed a w := by
  intro k
  induction k with
  | zero =>
    intro listed a w hs ht hk _ h
    have hall := leftN_zero n hk
    have e : listed = ((List.range ops.size).map fun i => decide (i < n)).toArray := by
      apply Array.ext (by simp [hs])
      intro j h1 h2
      rcases Nat.lt_or_ge j n with hlt | hge
      · have := hall j hlt
        simp [h1] at this
        simp [this, hlt]
      · have := ht j hge (by omega)
        simp [h1] at this
        simp [this]; omega
    have hl : (ops.toList.drop n).length = ops.size - n := by simp
    rw [Nat.zero_add, ← hl]
    refine wpAny_of_seq (ops.toList.drop n) n listed a w (fun j => by simp) ?_ ?_
    · rw [hl, e]; exact hO.seq
    · have hl : ∀ i, i < n → listed.getD i false = true := fun i hi => by
        rw [← getD_flip (by have := hO.le; omega)]
        exact hall i hi
      refine hend a w h.rel h.same (fun i hi => h.fact i hi (hl i hi)) ?_ (fun i j hi hj hij hA hB => h.parted i j hi hj hij hA hB (hl i hi) (hl j hj))
      have hJ := h.inv
      have ef : (fun j => listed.getD j false) = fun j => decide (j < n) := by
        funext j
        rcases Nat.lt_or_ge j n with hlt | hge
        · rw [hl j hlt, decide_eq_true hlt]
        · rw [decide_eq_false (Nat.not_lt.2 hge)]
          rcases Nat.lt_or_ge j ops.size with h1 | h1
          · rw [← getD_flip (by omega)]; exact ht j hge h1
          · simp [show ¬ j < listed.size by omega]
      rw [ef] at hJ
      exact hJ
  | succ k ih =>
    intro listed a w hs ht hk hcl h
    obtain ⟨i0, hi0, hl0, hless⟩ := leftN_least n (by omega : 0 < leftN listed n)
    have hfalse : listed.getD i0 false = false := by rw [← getD_flip (by have := hO.le; omega)]; exact hl0
    rw [Nat.succ_add]
    refine ⟨fun hr => ?_, fun i hi => ?_⟩
    · exfalso
      obtain ⟨o, ho, _⟩ := hO.dst i0 hi0
      have : i0 ∈ Region.ready .any ops listed := mem_ready.2 ⟨hl0, o, ho, fun e he hb => by
        have hlt := hO.back i0 o hi0 ho e he hb
        rw [← getD_flip (by have := hO.le; omega)]
        exact hless _ hlt⟩
      rw [hr] at this
      cases this
    · obtain ⟨hli, o, ho, hdep⟩ := mem_ready.1 hi
      have hin : i < n := by
        rcases Nat.lt_or_ge i n with h1 | h1
        · exact h1
        · exfalso
          have := hcl.reach dep i i0 o ho hdep (hO.phase i o h1 ho i0 hi0)
          rw [hfalse] at this
          cases this
      obtain ⟨o', ho', hgd, hdst⟩ := hO.dst i hin
      obtain rfl : o = o' := Option.some.inj (ho.symm.trans ho')
      have hA : Ahead D φ a w o.after.toList := ahead_of _ (fun e he hb => by
        have he' : e ∈ o.after := by simpa using he
        exact h.fact e.on (Nat.lt_trans (hO.back i o hin ho e he' hb) hin) (hdep e he' hb))
      have hisz : i < listed.size := by have := hO.le; omega
      have hif : listed.getD i false = false := by rw [← getD_flip hisz]; exact hli
      have hst := hstep i o hin ho a w (fun j => listed.getD j false) h.rel h.inv hif (fun e he hb => hdep e he hb) h.same hA
      have hbk : ∀ j, j < n → j ≠ i → listed.getD j false = true → reachB ops dep j i = false := fun j hj _ hlj => by
        cases hr : reachB ops dep j i
        · rfl
        · exfalso
          obtain ⟨oj, hoj, _⟩ := hO.dst j hj
          have := hcl.reach dep j i oj hoj (fun e he hb => hcl j oj hlj hoj e he hb) hr
          rw [hif] at this
          cases this
      have hs' : (listed.setIfInBounds i true).size = ops.size := by simpa using hs
      have ht' : ∀ j, n ≤ j → j < ops.size → (listed.setIfInBounds i true).getD j true = false := fun j h1 h2 => by
        rw [getD_set_ne true (by omega)]; exact ht j h1 h2
      have hcl' : Closed ops (listed.setIfInBounds i true) := fun j oj hj hoj e he hb => by
        by_cases hij : i = j
        · subst hij
          obtain rfl : o = oj := Option.some.inj (ho.symm.trans hoj)
          exact getD_set_true (hdep e he hb)
        · rw [getD_set_ne false hij] at hj
          exact getD_set_true (hcl j oj hj hoj e he hb)
      have hk' : leftN (listed.setIfInBounds i true) n = k := by
        have := leftN_set hli n hin
        omega
      unfold wpOp
      simp only [ho]
      have hw : Region.wanted o (yielded ops a.tmps) = true := by unfold Region.wanted; rw [hgd]
      rw [if_pos hw]
      refine .inl (Oper.wp_mono (fun a' w' h' => ?_) hst)
      obtain ⟨v, rfl, hg, hv, hJ, hn⟩ := h'
      cases hd : o.dst with
      | none =>
        obtain ⟨hAl, hany⟩ := hNo i o hin ho hd
        exact ih _ _ _ hs' ht' hk' hcl' (h.step0 hR hRi hm hin hisz hAl hany hbk hg hv hJ)
      | some d =>
        obtain ⟨hdd, hdN, hdD⟩ := hdst d hd
        exact ih _ _ _ hs' ht' hk' hcl' (h.step5 hR hRi hO hm hin hisz hdd hdN hdD hbk hg hv hJ hn)

def StepAll5 (P : Program) (Q : Exit → Act → World → Prop) (D : List Tmp) (Al : List Nat) (φ : Nat → Value → World → Prop) (R0 : World → World → Prop) (R : Nat → World → World → Prop) (J : (Nat → Bool) → World → Prop) (a0 : Act) (w0 : World) : Nat → List Oper → Prop
  | _, [] => True
  | k, o :: r => StepOk5 P Q D Al φ R0 R J a0 w0 k o ∧ StepAll5 P Q D Al φ R0 R J a0 w0 (k + 1) r
theorem StepAll5.get : ∀ (l : List Oper) (k : Nat), StepAll5 P Q D Al φ R0 R J a0 w0 k l → ∀ j o, l[j]? = some o → StepOk5 P Q D Al φ R0 R J a0 w0 (k + j) o
  | [], _, _, j, o, h => by simp at h
  | x :: r, k, hs, 0, o, h => by
    obtain rfl : x = o := by simpa using h
    exact hs.1
  | x :: r, k, hs, j + 1, o, h => by
    have := StepAll5.get r (k + 1) hs.2 j o (by simpa using h)
    rwa [show k + 1 + j = k + (j + 1) by omega] at this
/-- One walk for all orders. 'dep': how many steps the form looks on to see that the last operations wait for all others. -/
theorem wp_region_facts5 {id : Nat} (w : World) (dep n : Nat) (D : List Tmp) (Al : List Nat) (φ : Nat → Value → World → Prop) (R0 : World → World → Prop) (R : Nat → World → World → Prop) (J : (Nat → Bool) → World → Prop) (hR : May R0) (hRi : ∀ i w w', R i w w' → R0 w w') (hNo : ∀ i o, i < n → ops[i]? = some o → o.dst = none → Al.contains i = false ∧ ∀ u u' w, φ i u w → φ i u' w) (hf : P.follows .mixedOrders = true) (hB : factsB5 ops dep n a0.tmps.size D = true) (hg : R0 w0 w.drew) (hJ : J (fun _ => false) w.drew) (hm : ∀ i j v w w', i < n → j < n → i ≠ j → reachB ops dep i j = false → φ i v w → R j w w' → φ i v w')
    (hstep : StepAll5 P Q D Al φ R0 R J a0 w0 0 (ops.toList.take n))
    (hend : ∀ a w, R0 w0 w → SameBut D a0 a → (∀ i, i < n → φ i (slotOf D i a) w) → J (fun j => decide (j < n)) w → (∀ i j, i < n → j < n → i ≠ j → Al.contains i = true → Al.contains j = true → slotOf D i a ≠ slotOf D j a) → wpList P ops Q (ops.toList.drop n) a w) : (Code.region id ops true).wp P Q a0 w := by
  have hO := factsB5_ok hB
  refine wp_region_any hf ?_
  have hstep' : ∀ i o, i < n → ops[i]? = some o → StepOk5 P Q D Al φ R0 R J a0 w0 i o := fun i o hi ho => by
    have := StepAll5.get _ 0 hstep i o (by rw [List.getElem?_take_of_lt hi]; simpa using ho)
    rwa [Nat.zero_add] at this
  have h := wpAny_facts5 hR hRi hNo hO hm hstep' hend n (Array.replicate ops.size false) a0 w.drew (by simp) (fun j _ h2 => by simp [h2]) (leftN_none _ _ hO.le) (fun j o hj ho => by
    simp [show j < ops.size from (Array.getElem?_eq_some_iff.1 ho).1] at hj) ⟨hg, ⟨rfl, rfl, fun _ _ => rfl⟩, fun i hi hl => by
    simp [show i < ops.size by have := hO.le; omega] at hl, by
    have e : (fun j => (Array.replicate ops.size false).getD j false) = fun _ => false := by
      funext j
      by_cases h : j < ops.size <;> simp [h]
    rw [e]; exact hJ, fun i hi _ hl => by
    simp [show i < ops.size by have := hO.le; omega] at hl, fun i j hi _ _ _ _ hl _ => by
    simp [show i < ops.size by have := hO.le; omega] at hl⟩
  have e : n + (ops.size - n) = ops.size := by have := hO.le; omega
  rw [e] at h
  exact h
/-- The same, the stores named by their numbers. -/
theorem wp_region_facts5S {id : Nat} (w : World) (dep n : Nat) (D : List Tmp) (Al S : List Nat) (φ : Nat → Value → World → Prop) (R0 : World → World → Prop) (R : Nat → World → World → Prop) (J : (Nat → Bool) → World → Prop) (hR : May R0) (hRi : ∀ i w w', R i w w' → R0 w w') (hS : ((List.range n).all fun i => (ops[i]?).elim true fun o => o.dst.isSome || S.contains i) = true) (hNo : ∀ i, i ∈ S → Al.contains i = false ∧ ∀ u u' w, φ i u w → φ i u' w) (hf : P.follows .mixedOrders = true) (hB : factsB5 ops dep n a0.tmps.size D = true) (hg : R0 w0 w.drew) (hJ : J (fun _ => false) w.drew) (hm : ∀ i j v w w', i < n → j < n → i ≠ j → reachB ops dep i j = false → φ i v w → R j w w' → φ i v w')
    (hstep : StepAll5 P Q D Al φ R0 R J a0 w0 0 (ops.toList.take n))
    (hend : ∀ a w, R0 w0 w → SameBut D a0 a → (∀ i, i < n → φ i (slotOf D i a) w) → J (fun j => decide (j < n)) w → (∀ i j, i < n → j < n → i ≠ j → Al.contains i = true → Al.contains j = true → slotOf D i a ≠ slotOf D j a) → wpList P ops Q (ops.toList.drop n) a w) : (Code.region id ops true).wp P Q a0 w := by
  refine wp_region_facts5 w dep n D Al φ R0 R J hR hRi (fun i o hi ho hd => hNo i ?_) hf hB hg hJ hm hstep hend
  have h1 := List.all_eq_true.1 hS i (List.mem_range.2 hi)
  rw [ho] at h1
  have h2 : (o.dst.isSome || S.contains i) = true := h1
  rw [hd] at h2
  simpa using h2
end
end Go.Proofs.YtjdgcgpidhljpaaGreatDoor
end

section
/- Stage 9, the document's own: Decode, first part: fields taken, an element appended, a part's fields set in a drawn region. -/
namespace Go.Proofs.YtjdgcgpidhljpaaGreatDoor
open Go.RowKit

theorem int_range (st : Pk.St) : -1 ≤ (Pk.int st (-1) 64).1 ∧ (Pk.int st (-1) 64).1 ≤ 64 := by
  cases h : (Pk.int st (-1) 64).2 with
  | some r =>
    obtain ⟨_, h1, h2, _⟩ := Mt.int_left h
    exact ⟨h1, h2⟩
  | none =>
    unfold Pk.int at h ⊢
    split at h
    · cases h
    · simp
theorem text_range (st : Pk.St) : (Pk.text st 1024).1.length ≤ 1024 := by
  cases h : (Pk.text st 1024).2 with
  | some r =>
    have := (Mt.text_left h).1
    omega
  | none =>
    unfold Pk.text at h ⊢
    split at h
    · cases h
    · simp
theorem text_low {b : List Nat} (hb : ∀ x ∈ b, x < 256) {a : Int} {st : Pk.St} (ha : AtSt b a st) : ∀ x ∈ (Pk.text st 1024).1, x < 256 := by
  cases h : (Pk.text st 1024).2 with
  | some r =>
    have h1 := (Mt.text_left h).2
    rcases ha with ⟨_, e⟩ | ⟨k, _, _, e⟩
    · rw [e] at h1; cases h1
    · intro x hx
      generalize (Pk.text st 1024).1 = T at h1 hx
      rw [e] at h1
      have h2 := Option.some.inj h1
      have h3 : x ∈ b.drop k := by
        rw [h2]
        unfold Mt.encText
        exact List.mem_append.2 (.inl (List.mem_append.2 (.inr hx)))
      exact hb x (List.mem_of_mem_drop h3)
  | none =>
    unfold Pk.text at h ⊢
    split at h
    · cases h
    · simp
/-- A number taken. -/
def TN (w : World) (b : List Nat) (st : Pk.St) (e : Ending) (w' : World) : Prop :=
  ∃ A c a n st', e = .returned (.tuple #[.agg #[.int .u8 0, .int .i64 n, .slice A 0 c, .string ⟨#[]⟩, .int .i64 0, .int .i64 0, .int .i64 0], .int .i64 a]) ∧ Hid (AtSt b a st' ∧ Pk.int st (-1) 64 = (n, st') ∧ -1 ≤ n ∧ n ≤ 64) ∧ Grew w w'
/-- A text taken. -/
def TT (w : World) (b : List Nat) (st : Pk.St) (e : Ending) (w' : World) : Prop :=
  ∃ A c a t st' s, e = .returned (.tuple #[.agg #[.int .u8 2, .int .i64 0, .slice A 0 c, .string s, .int .i64 0, .int .i64 0, .int .i64 0], .int .i64 a]) ∧ Hid (AtSt b a st' ∧ Pk.text st 1024 = (t, st') ∧ s = Pk.strB t ∧ s.size ≤ 1024 ∧ t.length = s.size ∧ ∀ x ∈ t, x < 256) ∧ Grew w w'
theorem rtn_c {w : World} {A : Option Addr} {c : Nat} {b : List Nat} {a : Int} {st : Pk.St} (h : BytesAt w w.heap.size A b) (hc : b.length ≤ c) (hm : c ≤ 9223372036854775807) (hl : b.length ≤ 1000000000) (ha : AtSt b a st) :
    Calls Tryz.prog 35 #[.slice A b.length c, .int .i64 a, .agg #[.int .u8 0, .int .i64 0, .slice none 0 0, .string ⟨#[]⟩, .int .i64 0, .int .i64 (-1), .int .i64 64]] w (TN w b st) := by
  refine (rtake_c A c b a st ⟨⟨0, 0, [], ⟨#[]⟩, 0, -1, 64⟩, none, 0⟩ w h hc hm hl ha (show (0 : Nat) < 256 by decide)).mono ?_
  rintro e w' ⟨A', c', a', he, _, _, hst, hg⟩
  have ht : Pk.take st ⟨0, 0, [], ⟨#[]⟩, 0, -1, 64⟩ = (⟨0, (Pk.int st (-1) 64).1, [], ⟨#[]⟩, 0, 0, 0⟩, (Pk.int st (-1) 64).2) := by unfold Pk.take; rw [if_pos rfl]
  rw [ht] at he hst
  exact ⟨A', c', a', _, _, he, hid ⟨hst, rfl, (int_range st).1, (int_range st).2⟩, hg⟩
theorem rtt_c {w : World} {A : Option Addr} {c : Nat} {b : List Nat} {a : Int} {st : Pk.St} (h : BytesAt w w.heap.size A b) (hc : b.length ≤ c) (hm : c ≤ 9223372036854775807) (hl : b.length ≤ 1000000000) (ha : AtSt b a st) :
    Calls Tryz.prog 35 #[.slice A b.length c, .int .i64 a, .agg #[.int .u8 2, .int .i64 0, .slice none 0 0, .string ⟨#[]⟩, .int .i64 1024, .int .i64 0, .int .i64 0]] w (TT w b st) := by
  refine (rtake_c A c b a st ⟨⟨2, 0, [], ⟨#[]⟩, 1024, 0, 0⟩, none, 0⟩ w h hc hm hl ha (show (2 : Nat) < 256 by decide)).mono ?_
  rintro e w' ⟨A', c', a', he, _, _, hst, hg⟩
  have ht : Pk.take st ⟨2, 0, [], ⟨#[]⟩, 1024, 0, 0⟩ = (⟨2, 0, [], Pk.strB (Pk.text st 1024).1, 0, 0, 0⟩, (Pk.text st 1024).2) := by
    unfold Pk.take
    rw [if_neg (show ¬ (2 : Nat) = 0 by decide), if_neg (show ¬ (2 : Nat) = 1 by decide)]
  rw [ht] at he hst
  have h5 := text_range st
  exact ⟨A', c', a', _, _, _, he, hid ⟨hst, rfl, rfl, by rw [Mt.strB_size]; exact h5, (Mt.strB_size _).symm, text_low h.1 ha⟩, hg⟩
/-- 'append(out, x)': the one new element lies in a block of its own. -/
theorem wpList_pushE {P : Program} {ops : Array Oper} {rest : List Oper} {o : Oper} {a : Act} {Q : Exit → Act → World → Prop} (z : Value) (sz b : Nat) (w : World) (hgd : o.guard = none) (s x : Operand) (t e : TypeId)
    (ho : o.op = .call { callee := .builtin .append, args := #[s, x], argTypes := #[t, t] })
    (ht : P.underlying t = some (.slice e)) (he : (P.info? e).map (fun i => (i.zero, i.size, i.bytes)) = some (some z, sz, b)) (hzs : z.cells.size = sz) (hsz : 0 < sz)
    (B : Nat) (hB : B ≤ w.heap.size) (A : Option Addr) (n c : Nat) (ys : List Value) (hs : a.eval s = .slice A n c) (hown : Row w B e sz A n c ys) (H : Nat) (hH : w.heap.size = H) (hxv : a.eval x = .slice (some ⟨H, 0, none⟩) 1 1) (xs : List Value) (cs : Array Value) (hcs : cs = xs.toArray) (hl : xs.length = sz) (h1 : ∀ u ∈ xs, u.oneCell' = true)
    (hlen : n + 1 ≤ 1000000) (hb : b ≤ 1000)
    (h : ∀ A' c' w', Row w' B e sz A' (n + 1) c' (ys ++ xs) → Kept (AtRow A) w w' → RowTo w A A' → wpList P ops Q rest (a.put o.dst (.slice A' (n + 1) c')) w') : wpList P ops Q (o :: rest) a (w.alloc (.cells cs e)) := by
  subst hH hcs
  refine wpList_catR z sz b (w.alloc (.cells xs.toArray e)) hgd s x t e ho ht he hzs hsz B (by simp only [World.size_alloc]; omega) A n c ys hs (hown.grew ((Grew.refl w).alloc _)) _ 1 1 xs hxv (by omega) h1 (by intro h; cases h) (blk_row (Blk.new w e xs.toArray)) (by omega) (Nat.le_trans (Nat.mul_le_mul hlen hb) (by decide)) (fun A' c' w' r1 r2 r3 => h A' c' w' r1 r2.of_alloc (r3.imp id (fun ⟨g, h1, h2⟩ => ⟨g, h1, by simp only [World.size_alloc] at h2; omega⟩)))
/-- The code that is read of a text: it lies in new memory. -/
def CodeV (W0 : Nat) (s : ByteArray) (v : Value) (w : World) : Prop := ∃ A c, v = .slice A s.size c ∧ BytesAt w w.heap.size A (Pk.natsOf s) ∧ s.size ≤ c ∧ c ≤ 9223372036854775807 ∧ ∀ ad, A = some ad → W0 ≤ ad.block ∧ ad.block < w.heap.size
theorem CodeV.kept {W0 P : Nat} {s : ByteArray} {v : Value} {w w' : World} (hP : P < W0) (h : CodeV W0 s v w) (hk : Kept (· = P) w w') : CodeV W0 s v w' := by
  obtain ⟨A, c, h1, h2, h3, h4, h5⟩ := h
  refine ⟨A, c, h1, ⟨h2.1, fun hl => ?_⟩, h3, h4, fun ad e => ⟨(h5 ad e).1, Nat.lt_of_lt_of_le (h5 ad e).2 hk.size⟩⟩
  obtain ⟨ad, e, hb, hc⟩ := h2.2 hl
  have h6 := (h5 ad e).1
  exact ⟨ad, e, Nat.lt_of_lt_of_le hb hk.size, fun j hj => by rw [hk.cell (by rw [block_add]; exact hb) (by rw [block_add]; omega)]; exact hc j hj⟩
theorem codeV_new (w : World) (s : ByteArray) {W0 : Nat} (hW : W0 ≤ w.heap.size) (hs : s.size ≤ 1000000) : ∃ v w', (convert 9 26 (.string s)).run Tryz.prog w = .ok v w' ∧ CodeV W0 s v w' ∧ Grew w w' := by
  obtain ⟨k, y, hr, hz, hc⟩ := conv_str w s
  have h2 := Lib.run_convert_string_bytes (P := Tryz.prog) w 9 26 5 s Tryz.underlying9 Tryz.underlying26 Tryz.underlying5
  rw [hr] at h2
  simp only [Result.ok.injEq, Value.slice.injEq] at h2
  obtain ⟨⟨_, _, hk⟩, _⟩ := h2
  refine ⟨_, _, hr, ⟨_, k, rfl, ⟨Pk.natsOf_byte s, fun _ => ⟨_, rfl, by rw [hz]; exact Nat.lt_succ_self _, fun j hj => ?_⟩⟩, ?_, ?_, fun ad e => ?_⟩, y.grew⟩
  · rw [Pk.natsOf_len] at hj
    rw [show (⟨w.heap.size, 0, none⟩ : Addr).add j = ⟨w.heap.size, j, none⟩ by unfold Addr.add; split <;> simp_all, hc j hj]
    unfold Pk.natsOf
    simp [List.getD_eq_getElem?_getD, List.getElem?_map]
    cases s.data[j]? <;> rfl
  · rw [hk]; exact grownCap_ge w _ _ _
  · rw [hk]
    exact Nat.le_trans (grownCap_le_maxLen w _ _ _ (Nat.le_trans hs (by decide))) (by decide)
  · cases e
    exact ⟨hW, by rw [hz]; exact Nat.lt_succ_self _⟩
/-- What each operation gives where a part's fields are set. -/
def PF5 (P g1 g2 g3 g4 : Nat) (x1 x2 x3 : Int) (W0 : Nat) (s : ByteArray) (j : Nat) (v : Value) (w : World) : Prop := match j with
  | 0 => v = .pointer (some ⟨g1, 1, none⟩)
  | 1 => v = .int .i64 x1
  | 2 => v = .pointer (some ⟨g2, 1, none⟩)
  | 3 => v = .int .i64 x2
  | 4 => v = .pointer (some ⟨g3, 1, none⟩)
  | 5 => v = .int .i64 x3
  | 6 => v = .pointer (some ⟨g4, 3, none⟩)
  | 7 => v = .string s
  | 8 => CodeV W0 s v w
  | 9 => v = .pointer (some ⟨P, 0, none⟩)
  | 11 => v = .pointer (some ⟨P, 1, none⟩)
  | 13 => v = .pointer (some ⟨P, 2, none⟩)
  | 15 => v = .pointer (some ⟨P, 3, none⟩)
  | _ => True
theorem PF5.stable {P g1 g2 g3 g4 : Nat} {x1 x2 x3 : Int} {W0 : Nat} {s : ByteArray} (hP : P < W0) (j : Nat) (v : Value) (w w' : World) (h : PF5 P g1 g2 g3 g4 x1 x2 x3 W0 s j v w) (hk : Kept (· = P) w w') : PF5 P g1 g2 g3 g4 x1 x2 x3 W0 s j v w' := by
  unfold PF5 at h ⊢
  split at h
  all_goals first
    | exact h
    | exact CodeV.kept hP h hk
/-- The part's box, as far as it is set. -/
def PJ5 (P : Nat) (t : TypeId) (x1 x2 x3 : Int) (W0 : Nat) (s : ByteArray) (f : Nat → Bool) (w : World) : Prop :=
  ∃ v3, Blk w P t #[.int .i64 (if f 10 then x1 else 0), .int .i64 (if f 12 then x2 else 0), .int .i64 (if f 14 then x3 else 0), v3] ∧ (if f 16 then CodeV W0 s v3 w else v3 = .slice none 0 0)
theorem PJ5.pure {P : Nat} {t : TypeId} {x1 x2 x3 : Int} {W0 : Nat} {s : ByteArray} {f : Nat → Bool} {w w' : World} (hP : P < W0) (h : PJ5 P t x1 x2 x3 W0 s f w) (hg : Grew w w') (j : Nat) (h10 : j ≠ 10) (h12 : j ≠ 12) (h14 : j ≠ 14) (h16 : j ≠ 16) : PJ5 P t x1 x2 x3 W0 s (updF f j) w' := by
  obtain ⟨v3, h1, h2⟩ := h
  refine ⟨v3, ?_, ?_⟩
  · unfold updF
    rw [if_neg (Ne.symm h10), if_neg (Ne.symm h12), if_neg (Ne.symm h14)]
    exact h1.grew hg
  · unfold updF
    rw [if_neg (Ne.symm h16)]
    split
    · rename_i hf
      rw [if_pos hf] at h2
      exact CodeV.kept hP h2 (Kept.of_grew hg)
    · rename_i hf
      rw [if_neg hf] at h2
      exact h2
theorem PJ5.drew {P : Nat} {t : TypeId} {x1 x2 x3 : Int} {W0 : Nat} {s : ByteArray} {w : World} (h : PJ5 P t x1 x2 x3 W0 s (fun _ => false) w) : PJ5 P t x1 x2 x3 W0 s (fun _ => false) w.drew := by
  obtain ⟨v3, h1, h2⟩ := h
  exact ⟨v3, h1.grew (Grew.refl _).drew, h2⟩
theorem if_upd {α : Type} (f : Nat → Bool) (i j : Nat) (x y : α) (h : i ≠ j) : (if updF f i j then x else y) = if f j then x else y := by
  unfold updF
  rw [if_neg (Ne.symm h)]
theorem if_set {α : Type} (f : Nat → Bool) (i : Nat) (x y : α) : (if updF f i i then x else y) = x := by
  unfold updF
  rw [if_pos rfl, if_pos rfl]
section
variable {P : Nat} {t : TypeId} {x1 x2 x3 : Int} {W0 : Nat} {s : ByteArray} {f : Nat → Bool} {w : World}
theorem PJ5.far (hP : P < W0) {v3 : Value} {k : Nat} (x : Value) (h : if f 16 then CodeV W0 s v3 w else v3 = .slice none 0 0) : if f 16 then CodeV W0 s v3 (w.setCell ⟨P, k, none⟩ x) else v3 = .slice none 0 0 := by
  split
  · rename_i hf
    rw [if_pos hf] at h
    exact CodeV.kept hP h ((Kept.refl (· = P) _).setCell (p := ⟨P, k, none⟩) (fun _ => rfl) _)
  · rename_i hf
    rw [if_neg hf] at h
    exact h
theorem PJ5.st0 (hP : P < W0) (h : PJ5 P t x1 x2 x3 W0 s f w) : PJ5 P t x1 x2 x3 W0 s (updF f 10) (w.setCell ⟨P, 0, none⟩ (.int .i64 x1)) := by
  obtain ⟨v3, h1, h2⟩ := h
  refine ⟨v3, ?_, ?_⟩
  · rw [if_set, if_upd _ _ _ _ _ (by decide), if_upd _ _ _ _ _ (by decide)]
    have := h1.put 0 (.int .i64 x1)
    simpa using this
  · have e : updF f 10 16 = f 16 := by unfold updF; rw [if_neg (by decide)]
    rw [e]
    exact PJ5.far hP _ h2
theorem PJ5.st1 (hP : P < W0) (h : PJ5 P t x1 x2 x3 W0 s f w) : PJ5 P t x1 x2 x3 W0 s (updF f 12) (w.setCell ⟨P, 1, none⟩ (.int .i64 x2)) := by
  obtain ⟨v3, h1, h2⟩ := h
  refine ⟨v3, ?_, ?_⟩
  · rw [if_set, if_upd _ _ _ _ _ (by decide), if_upd _ _ _ _ _ (by decide)]
    have := h1.put 1 (.int .i64 x2)
    simpa using this
  · have e : updF f 12 16 = f 16 := by unfold updF; rw [if_neg (by decide)]
    rw [e]
    exact PJ5.far hP _ h2
theorem PJ5.st2 (hP : P < W0) (h : PJ5 P t x1 x2 x3 W0 s f w) : PJ5 P t x1 x2 x3 W0 s (updF f 14) (w.setCell ⟨P, 2, none⟩ (.int .i64 x3)) := by
  obtain ⟨v3, h1, h2⟩ := h
  refine ⟨v3, ?_, ?_⟩
  · rw [if_set, if_upd _ _ _ _ _ (by decide), if_upd _ _ _ _ _ (by decide)]
    have := h1.put 2 (.int .i64 x3)
    simpa using this
  · have e : updF f 14 16 = f 16 := by unfold updF; rw [if_neg (by decide)]
    rw [e]
    exact PJ5.far hP _ h2
theorem PJ5.st3 (hP : P < W0) (h : PJ5 P t x1 x2 x3 W0 s f w) {v : Value} (hv : CodeV W0 s v w) : PJ5 P t x1 x2 x3 W0 s (updF f 16) (w.setCell ⟨P, 3, none⟩ v) := by
  obtain ⟨v3, h1, _⟩ := h
  refine ⟨v, ?_, ?_⟩
  · rw [if_upd _ _ _ _ _ (by decide), if_upd _ _ _ _ _ (by decide), if_upd _ _ _ _ _ (by decide)]
    have := h1.put 3 v
    simpa using this
  · have e : updF f 16 16 = true := by unfold updF; rw [if_pos rfl]
    rw [e, if_pos rfl]
    exact CodeV.kept hP hv ((Kept.refl (· = P) _).setCell (p := ⟨P, 3, none⟩) (fun _ => rfl) _)
theorem PJ5.full {n : Nat} (hn : 17 ≤ n) (h : PJ5 P t x1 x2 x3 W0 s (fun j => decide (j < n)) w) : ∃ v3, Blk w P t #[.int .i64 x1, .int .i64 x2, .int .i64 x3, v3] ∧ CodeV W0 s v3 w := by
  obtain ⟨v3, h1, h2⟩ := h
  simp only [decide_eq_true (show 10 < n by omega), decide_eq_true (show 12 < n by omega), decide_eq_true (show 14 < n by omega), decide_eq_true (show 16 < n by omega), if_true] at h1 h2
  exact ⟨v3, h1, h2⟩
end
/-- The boxes that stay: the result's, the two fields to be taken. -/
structure RB (w : World) (G X Y : Nat) (wr : World) : Prop where
  res : Blk wr G 25 #[.string ⟨#[]⟩, .slice none 0 0, .slice none 0 0]
  txt : Blk wr X 80 #[.int .u8 2, .int .i64 0, .slice none 0 0, .string ⟨#[]⟩, .int .i64 1024, .int .i64 0, .int .i64 0]
  num : Blk wr Y 80 #[.int .u8 0, .int .i64 0, .slice none 0 0, .string ⟨#[]⟩, .int .i64 0, .int .i64 (-1), .int .i64 64]
  gr : Grew w wr
theorem RB.grew {w : World} {G X Y : Nat} {wr w' : World} (h : RB w G X Y wr) (hg : Grew wr w') : RB w G X Y w' := ⟨h.res.grew hg, h.txt.grew hg, h.num.grew hg, h.gr.trans hg⟩
theorem RB.kept {w : World} {G X Y : Nat} {wr w' : World} {F : Nat → Prop} (h : RB w G X Y wr) (hk : Kept F wr w') (h1 : ¬ F G) (h2 : ¬ F X) (h3 : ¬ F Y) (h4 : ∀ k, F k → w.heap.size ≤ k) : RB w G X Y w' :=
  ⟨h.res.kept hk h1, h.txt.kept hk h2, h.num.kept hk h3, hk.grew h.gr h4⟩
/-- Parts of any length that lie one behind the other. -/
def PvB (w : World) (v : PV) : Prop := BytesAt w w.heap.size v.A v.p.code ∧ v.p.code.length ≤ v.c ∧ v.c ≤ 9223372036854775807
theorem PvB.kept {F : Nat → Prop} {w w' : World} {v : PV} (h : PvB w v) (hk : Kept F w w') (hF : ∀ ad, v.A = some ad → ¬ F ad.block) : PvB w' v := by
  refine ⟨⟨h.1.1, fun hl => ?_⟩, h.2⟩
  obtain ⟨ad, e, hb, hc⟩ := h.1.2 hl
  exact ⟨ad, e, Nat.lt_of_lt_of_le hb hk.size, fun j hj => by rw [hk.cell (by rw [block_add]; exact hb) (by rw [block_add]; exact hF ad e)]; exact hc j hj⟩
theorem row_partsB {w : World} {B : Nat} {t : TypeId} {A : Option Addr} {c n : Nat} {l : List PV} (hn : n = l.length) (h : Row w B t 4 A n c (l.flatMap pvF)) (hl : ∀ x ∈ l, PvB w x) : PartsArg w A l := by
  refine ⟨hl, fun h0 => ?_⟩
  rcases h.cases with ⟨_, _, _, ⟨_, h1, _⟩ | ⟨g, rfl, _, hlt, hc, _⟩⟩
  · omega
  · refine ⟨_, rfl, hlt, fun i x hx j u hu => ?_⟩
    rw [show (⟨g, 0, none⟩ : Addr).add (i * 4 + j) = ⟨g, i * 4 + j, none⟩ by unfold Addr.add; split <;> simp_all]
    exact hc _ _ (flat_at pvF 4 (fun _ => rfl) l i x hx j u (by simpa [pvF, pvCells] using hu))
/-- What the document's Decode answers. -/
def RDec9 (w : World) (b : List Nat) (e : Ending) (w' : World) : Prop :=
  (Mt.decode b = none ∧ e = .returned (.tuple #[.agg #[.string ⟨#[]⟩, .slice none 0 0, .slice none 0 0], .int .i64 2]) ∧ Grew w w') ∨
  ∃ v : MV, Mt.decode b = some v.m ∧ e = .returned (.tuple #[.agg (mvCells v), .int .i64 0]) ∧ MethAt w' v ∧ Grew w w'
set_option maxRecDepth 100000 in
theorem rres_meth2 (tmps : Array Value) (g : Nat) (ha : tmps.getD 2 undef = .pointer (some ⟨g, 0, none⟩)) (v : Value) (hv : tmps.getD 3 undef = v) (w : World) (c0 c1 c2 : Value) (hb : Blk w g 25 #[c0, c1, c2]) :
    (results Tryz.f14 tmps).run Tryz.prog w = .ok (.tuple #[.agg #[c0, c1, c2], v]) w := by
  have y0 : w.cell? ⟨g, 0, none⟩ = some c0 := hb.cell 0
  have y1 : w.cell? ⟨g, 1, none⟩ = some c1 := hb.cell 1
  have y2 : w.cell? ⟨g, 2, none⟩ = some c2 := hb.cell 2
  have ha' : tmps[2]?.getD undef = .pointer (some ⟨g, 0, none⟩) := by simpa using ha
  have hv' : tmps[3]?.getD undef = v := by simpa using hv
  simp [results, Tryz.results14, go_sem, *]
end Go.Proofs.YtjdgcgpidhljpaaGreatDoor
end

section
/- Stage 9: a method's memory is none of the boxes of strings and slices; two methods given in a drawn region. -/
namespace Go.Proofs.YtjdgcgpidhljpaaGreatDoor
open Go.RowKit

/-- A box whose first three cells are no integers. -/
theorem MethAt.box {w w' : World} {u : MV} {g : Nat} {t : TypeId} {s : ByteArray} {A B : Option Addr} {n c m d : Nat} (h : MethAt w u) (hb : Blk w g t #[.string s, .slice A n c, .slice B m d]) (hk : Kept (· = g) w w') : MethAt w' u := by
  have far : ∀ (ad : Addr) (k : IntKind) (x : Int), w.cell? ad = some (.int k x) → ad.block ≠ g := by
    intro ad k x hc e
    obtain ⟨b, o, z⟩ := ad
    simp only at e
    subst e
    unfold Blk at hb
    rcases o with _ | _ | _ | o <;> simp [World.cell?, hb] at hc
  refine ⟨h.sel, ⟨h.lits.1, fun hl => ?_⟩, h.l1, ⟨fun v hv => ?_, fun hl => ?_⟩, h.l2⟩
  · obtain ⟨ad, e, hlt, hc⟩ := h.lits.2 hl
    have h0 := hc 0 _ (List.getElem?_eq_getElem hl) 0 _ rfl
    have hne := far _ _ _ h0
    rw [block_add] at hne
    exact ⟨ad, e, Nat.lt_of_lt_of_le hlt hk.size, fun i x hx j q hq => by rw [hk.cell (by rw [block_add]; exact hlt) (by rw [block_add]; exact hne)]; exact hc i x hx j q hq⟩
  · obtain ⟨h1, h2⟩ := h.parts.1 v hv
    refine ⟨⟨h1.1, fun hl => ?_⟩, h2⟩
    obtain ⟨ad, e, hlt, hc⟩ := h1.2 hl
    have hne := far _ _ _ (hc 0 hl)
    rw [block_add] at hne
    exact ⟨ad, e, Nat.lt_of_lt_of_le hlt hk.size, fun j hj => by rw [hk.cell (by rw [block_add]; exact hlt) (by rw [block_add]; exact hne)]; exact hc j hj⟩
  · obtain ⟨ad, e, hlt, hc⟩ := h.parts.2 hl
    have h0 := hc 0 _ (List.getElem?_eq_getElem hl) 0 _ rfl
    have hne := far _ _ _ h0
    rw [block_add] at hne
    exact ⟨ad, e, Nat.lt_of_lt_of_le hlt hk.size, fun i x hx j q hq => by rw [hk.cell (by rw [block_add]; exact hlt) (by rw [block_add]; exact hne)]; exact hc i x hx j q hq⟩
end Go.Proofs.YtjdgcgpidhljpaaGreatDoor
end

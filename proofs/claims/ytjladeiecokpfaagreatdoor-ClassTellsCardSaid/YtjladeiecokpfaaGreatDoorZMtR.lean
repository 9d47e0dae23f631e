/- Parts of elder texts that this layer needs, joined: XMtR XMtS XMtV. -/
import Derived.Test.YtjladeiecokpfaaGreatDoorZMtF
import Derived.Test.YtjladeiecokpfaaGreatDoorZFlA
import Derived.Lib.BufferWrite
import Derived.Test.YtjladeiecokpfaaGreatDoorZFa
namespace Go.Proofs.YtjladeiecokpfaaGreatDoor
open Go.RowKit

theorem int_in {st : Pk.St} {a b : Int} (h0 : a ≤ 0) (h1 : 0 ≤ b) : a ≤ (Pk.int st a b).1 ∧ (Pk.int st a b).1 ≤ b := by
  rcases h : Pk.int st a b with ⟨n, r⟩
  cases r with
  | some r =>
    obtain ⟨_, h2, h3, _⟩ := Mt.int_some h
    exact ⟨h2, h3⟩
  | none =>
    unfold Pk.int at h
    split at h
    · cases h
    · cases h; exact ⟨h0, h1⟩
theorem text_in {st : Pk.St} {m : Nat} : (Pk.text st m).1.length ≤ m ∧ ∀ x ∈ (Pk.text st m).1, x ∈ Pk.rest st := by
  rcases h : Pk.text st m with ⟨s, r⟩
  cases r with
  | some r =>
    obtain ⟨h2, h3⟩ := Mt.text_some h
    refine ⟨by simp only; omega, fun x hx => ?_⟩
    subst h3
    simp [Pk.rest, Mt.encText, hx]
  | none =>
    unfold Pk.text at h
    split at h
    · cases h
    · cases h; exact ⟨by simp, by simp⟩
theorem litR_in (st : Pk.St) : (Mt.litR st).1.k ≤ 2 ∧ (Mt.litR st).1.s.size ≤ 1024 := by
  unfold Mt.litR
  simp only
  have h1 := int_in (st := st) (a := 0) (b := 2) (by decide) (by decide)
  have h2 := (text_in (st := (Pk.int st 0 2).2) (m := 1024)).1
  rw [Mt.strB_size]
  exact ⟨by omega, h2⟩
theorem partR_in (st : Pk.St) : (-1 ≤ (Mt.partR st).1.outer ∧ (Mt.partR st).1.outer ≤ 63) ∧ (0 ≤ (Mt.partR st).1.args ∧ (Mt.partR st).1.args ≤ 16) ∧ (0 ≤ (Mt.partR st).1.temps ∧ (Mt.partR st).1.temps ≤ 16) ∧ (Mt.partR st).1.code.length ≤ 512 :=
  ⟨int_in (by decide) (by decide), int_in (by decide) (by decide), int_in (by decide) (by decide), text_in.1⟩
theorem u8_info9 : (Tryz.prog.info? 5).map (fun i => (i.zero, i.size, i.bytes)) = some (some (.int .u8 0), 1, 1) := by kernel_rfl
set_option maxRecDepth 100000 in
/-- A result that is a part. -/
theorem res_part {fn : Func} {a : Tmp} (hr : fn.results = #[ResultVar.cell a 71]) (tmps : Array Value) (g : Nat) (ha : tmps.getD a undef = .pointer (some ⟨g, 0, none⟩)) (w : World) (c0 c1 c2 c3 : Value) (hb : Blk w g 71 #[c0, c1, c2, c3]) :
    (results fn tmps).run Tryz.prog w = .ok (.agg #[c0, c1, c2, c3]) w := by
  have y0 : w.cell? ⟨g, 0, none⟩ = some c0 := hb.cell 0
  have y1 : w.cell? ⟨g, 1, none⟩ = some c1 := hb.cell 1
  have y2 : w.cell? ⟨g, 2, none⟩ = some c2 := hb.cell 2
  have y3 : w.cell? ⟨g, 3, none⟩ = some c3 := hb.cell 3
  have ha' : tmps[a]?.getD undef = .pointer (some ⟨g, 0, none⟩) := by simpa using ha
  simp [results, go_sem, *]
theorem Blk.put4 {w : World} {g : Nat} {t : TypeId} {a0 a1 a2 a3 : Value} (h : Blk w g t #[a0, a1, a2, a3]) (c0 c1 c2 c3 : Value) :
    Blk ((((w.setCell ⟨g, 0, none⟩ c0).setCell ⟨g, 1, none⟩ c1).setCell ⟨g, 2, none⟩ c2).setCell ⟨g, 3, none⟩ c3) g t #[c0, c1, c2, c3] := by
  have := (((h.put 0 c0).put 1 c1).put 2 c2).put 3 c3
  simpa using this
theorem kept4 {F : Nat → Prop} {w w2 : World} {g : Nat} (h : Kept F w w2) (hg : g < w.heap.size → F g) (c0 c1 c2 c3 : Value) :
    Kept F w ((((w2.setCell ⟨g, 0, none⟩ c0).setCell ⟨g, 1, none⟩ c1).setCell ⟨g, 2, none⟩ c2).setCell ⟨g, 3, none⟩ c3) :=
  (((h.setCell (p := ⟨g, 0, none⟩) hg c0).setCell (p := ⟨g, 1, none⟩) hg c1).setCell (p := ⟨g, 2, none⟩) hg c2).setCell (p := ⟨g, 3, none⟩) hg c3
theorem Blk.row9 {w : World} {g : Nat} {t : TypeId} {old : Array Value} (h : Blk w g t old) (cs : Array Value) : Blk (w.setRow g cs) g t cs := setRow_heap w g old cs t _ h
theorem Kept.row9 {F : Nat → Prop} {a b : World} (h : Kept F a b) {g : Nat} (hg : g < a.heap.size → F g) (cs : Array Value) : Kept F a (b.setRow g cs) :=
  h.next (G := fun k => k = g) ⟨rfl, rfl, rfl, by simp, fun k _ hk => setRow_other b g k cs hk⟩ (fun i hi e => by subst e; exact hg hi)
theorem PvOk.kept9 {F : Nat → Prop} {w w' : World} {v : PV} (h : PvOk w v) (hk : Kept F w w') (hF : ∀ ad, v.A = some ad → ¬ F ad.block) : PvOk w' v := by
  have hn := (NumsAt.of_bytes h.1).kept hk (Nat.le_refl _) hF
  refine ⟨⟨h.1.1, fun hl => ?_⟩, h.2⟩
  obtain ⟨ad, e, hb, hc⟩ := hn hl
  exact ⟨ad, e, Nat.lt_of_lt_of_le hb hk.size, hc⟩
end Go.Proofs.YtjladeiecokpfaaGreatDoor
namespace Go.Proofs.YtjladeiecokpfaaGreatDoor
open Go.RowKit

theorem flat_at {α : Type} (f : α → List Value) (k : Nat) (hk : ∀ x, (f x).length = k) : ∀ (l : List α) (i : Nat) (x : α), l[i]? = some x → ∀ j u, (f x)[j]? = some u → (l.flatMap f)[i * k + j]? = some u
  | [], i, x, hx, _, _, _ => by simp at hx
  | y :: r, 0, x, hx, j, u, hu => by
    obtain rfl : y = x := by simpa using hx
    rw [List.flatMap_cons, Nat.zero_mul, Nat.zero_add, List.getElem?_append_left (List.getElem?_eq_some_iff.1 hu).1]
    exact hu
  | y :: r, i + 1, x, hx, j, u, hu => by
    have h2 := flat_at f k hk r i x (by simpa using hx) j u hu
    rw [List.flatMap_cons, List.getElem?_append_right (by rw [hk]; rw [Nat.add_mul]; omega), hk, show (i + 1) * k + j - k = i * k + j by rw [Nat.add_mul]; omega]
    exact h2
def litF (x : Mt.Lit) : List Value := [.int .u8 ((x.k : Nat) : Int), .string x.s]
def pvF (v : PV) : List Value := [.int .i64 v.p.outer, .int .i64 v.p.args, .int .i64 v.p.temps, .slice v.A v.p.code.length v.c]
theorem row_lits {w : World} {B : Nat} {t : TypeId} {A : Option Addr} {c n : Nat} {l : List Mt.Lit} (hn : n = l.length) (h : Row w B t 2 A n c (l.flatMap litF)) (hl : ∀ x ∈ l, x.k < 256 ∧ x.s.size ≤ 2000) : LitsAt w A l := by
  refine ⟨hl, fun h0 => ?_⟩
  rcases h.cases with ⟨_, _, _, ⟨_, h1, _⟩ | ⟨g, rfl, _, hlt, hc, _⟩⟩
  · omega
  · refine ⟨_, rfl, hlt, fun i x hx j u hu => ?_⟩
    rw [show (⟨g, 0, none⟩ : Addr).add (i * 2 + j) = ⟨g, i * 2 + j, none⟩ by unfold Addr.add; split <;> simp_all]
    exact hc _ _ (flat_at litF 2 (fun _ => rfl) l i x hx j u (by simpa [litF, litCells2] using hu))
theorem row_parts {w : World} {B : Nat} {t : TypeId} {A : Option Addr} {c n : Nat} {l : List PV} (hn : n = l.length) (h : Row w B t 4 A n c (l.flatMap pvF)) (hl : ∀ x ∈ l, PvOk w x) : PartsAt w A l := by
  refine ⟨hl, fun h0 => ?_⟩
  rcases h.cases with ⟨_, _, _, ⟨_, h1, _⟩ | ⟨g, rfl, _, hlt, hc, _⟩⟩
  · omega
  · refine ⟨_, rfl, hlt, fun i x hx j u hu => ?_⟩
    rw [show (⟨g, 0, none⟩ : Addr).add (i * 4 + j) = ⟨g, i * 4 + j, none⟩ by unfold Addr.add; split <;> simp_all]
    exact hc _ _ (flat_at pvF 4 (fun _ => rfl) l i x hx j u (by simpa [pvF, pvCells] using hu))
section
variable {α : Type}
end
end Go.Proofs.YtjladeiecokpfaaGreatDoor
namespace Go.Proofs.YtjladeiecokpfaaGreatDoor
open Go.RowKit

/-- Literals of an argument. -/
def LitsArg (w : World) (A : Option Addr) (l : List Mt.Lit) : Prop :=
  (∀ x ∈ l, x.k < 256) ∧ (0 < l.length → ∃ ad, A = some ad ∧ ad.block < w.heap.size ∧ ∀ i x, l[i]? = some x → ∀ j u, (litCells2 x)[j]? = some u → w.cell? (ad.add (i * 2 + j)) = some u)
theorem LitsArg.grew {w w' : World} {A : Option Addr} {l : List Mt.Lit} (h : LitsArg w A l) (hg : Grew w w') : LitsArg w' A l := ⟨h.1, fun hl => by
  obtain ⟨ad, h1, h2, h3⟩ := h.2 hl
  exact ⟨ad, h1, Nat.lt_of_lt_of_le h2 hg.below.size, fun i x hi j u hu => (hg.below.cell (by rw [block_add]; exact h2)).trans (h3 i x hi j u hu)⟩⟩
/-- Parts of an argument. -/
def PartsArg (w : World) (A : Option Addr) (l : List PV) : Prop :=
  (∀ v ∈ l, BytesAt w w.heap.size v.A v.p.code ∧ v.p.code.length ≤ v.c ∧ v.c ≤ 9223372036854775807) ∧ (0 < l.length → ∃ ad, A = some ad ∧ ad.block < w.heap.size ∧ ∀ i v, l[i]? = some v → ∀ j u, (pvCells v)[j]? = some u → w.cell? (ad.add (i * 4 + j)) = some u)
theorem PartsArg.grew {w w' : World} {A : Option Addr} {l : List PV} (h : PartsArg w A l) (hg : Grew w w') : PartsArg w' A l := ⟨fun v hv => ⟨(h.1 v hv).1.grew hg, (h.1 v hv).2⟩, fun hl => by
  obtain ⟨ad, h1, h2, h3⟩ := h.2 hl
  exact ⟨ad, h1, Nat.lt_of_lt_of_le h2 hg.below.size, fun i x hi j u hu => (hg.below.cell (by rw [block_add]; exact h2)).trans (h3 i x hi j u hu)⟩⟩
/-- A method that is an argument: no bounds. -/
structure MethArg (w : World) (v : MV) : Prop where
  lits : LitsArg w v.A1 v.lits
  parts : PartsArg w v.A2 v.vs
theorem MethArg.grew {w w' : World} {v : MV} (h : MethArg w v) (hg : Grew w w') : MethArg w' v := ⟨h.lits.grew hg, h.parts.grew hg⟩
/-- It has too much. -/
def BigP (v : MV) : Prop := 1100 < v.sel.size ∨ 70 < v.lits.length ∨ 70 < v.vs.length ∨ (∃ x ∈ v.lits, 1100 < x.s.size) ∨ (∃ q ∈ v.vs, 600 < q.p.code.length)
theorem MethArg.fit {w : World} {v : MV} (h : MethArg w v) (hb : ¬ BigP v) : MethAt w v := by
  unfold BigP at hb
  refine ⟨by omega, ⟨fun x hx => ⟨h.lits.1 x hx, ?_⟩, h.lits.2⟩, by omega, ⟨fun q hq => ⟨(h.parts.1 q hq).1, (h.parts.1 q hq).2.1, (h.parts.1 q hq).2.2, ?_⟩, h.parts.2⟩, by omega⟩
  · have : ¬ 1100 < x.s.size := fun hc => hb (.inr (.inr (.inr (.inl ⟨x, hx, hc⟩))))
    omega
  · have : ¬ 600 < q.p.code.length := fun hc => hb (.inr (.inr (.inr (.inr ⟨q, hq, hc⟩))))
    omega
theorem argLit_at {w wr : World} {A : Option Addr} {l : List Mt.Lit} (h : LitsArg w A l) (hg : Grew w wr) {i : Nat} (hi : i < l.length) : ∃ ad x, A = some ad ∧ l[i]? = some x ∧ wr.cell? (ad.add (i * 2)) = some (.int .u8 ((x.k : Nat) : Int)) ∧ wr.cell? ⟨ad.block, (ad.add (i * 2)).off + 1, none⟩ = some (.string x.s) ∧ ad.block < wr.heap.size := by
  obtain ⟨ad, e, hb, hc⟩ := h.2 (by omega)
  have hv := List.getElem?_eq_getElem hi
  obtain ⟨q0, q1⟩ := lit_cell (x := l[i]) (i := i) (ad := ad) (w := wr) (fun j u hu => by
    rw [hg.below.cell (by rw [block_add]; exact hb)]; exact hc i _ hv j u hu)
  exact ⟨ad, l[i], e, hv, q0, q1, Nat.lt_of_lt_of_le hb hg.below.size⟩
theorem argPart_at {w wr : World} {A : Option Addr} {l : List PV} (h : PartsArg w A l) (hg : Grew w wr) {i : Nat} (hi : i < l.length) : ∃ ad v, A = some ad ∧ l[i]? = some v ∧ wr.cell? (ad.add (i * 4)) = some (.int .i64 v.p.outer) ∧ wr.cell? ⟨ad.block, (ad.add (i * 4)).off + 1, none⟩ = some (.int .i64 v.p.args) ∧ wr.cell? ⟨ad.block, (ad.add (i * 4)).off + 2, none⟩ = some (.int .i64 v.p.temps) ∧ wr.cell? ⟨ad.block, (ad.add (i * 4)).off + 3, none⟩ = some (.slice v.A v.p.code.length v.c) ∧ ad.block < wr.heap.size := by
  obtain ⟨ad, e, hb, hc⟩ := h.2 (by omega)
  have hv := List.getElem?_eq_getElem hi
  obtain ⟨q0, q1, q2, q3⟩ := pv_cell (v := l[i]) (i := i) (ad := ad) (w := wr) (fun j u hu => by
    rw [hg.below.cell (by rw [block_add]; exact hb)]; exact hc i _ hv j u hu)
  exact ⟨ad, l[i], e, hv, q0, q1, q2, q3, Nat.lt_of_lt_of_le hb hg.below.size⟩
set_option maxRecDepth 100000 in
set_option maxHeartbeats 2000000 in
theorem bigMethod_c (v : MV) (b : Bool) (hb : b = true ↔ BigP v) (w : World) (h : MethArg w v) :
    Calls Tryz.prog 27 #[.agg (mvCells v)] w fun e w' => e = .returned (.bool b) ∧ Grew w w' := by
  obtain ⟨sel, lits, A1, c1, vs, A2, c2⟩ := v
  obtain ⟨n, en⟩ : ∃ n, n = lits.length := ⟨_, rfl⟩
  obtain ⟨m, em⟩ : ∃ m, m = vs.length := ⟨_, rfl⟩
  have HA := hid h.lits
  have HP := hid h.parts
  have HB := hid hb
  have hg0 : Grew w (w.alloc (.cells (mvCells ⟨sel, lits, A1, c1, vs, A2, c2⟩) 67)) := (Grew.refl w).alloc _
  have hb0 := Blk.new w 67 (mvCells ⟨sel, lits, A1, c1, vs, A2, c2⟩)
  unfold BigP at HB
  unfold mvCells at hg0 hb0 ⊢
  simp only at HA HP HB hg0 hb0 ⊢
  rw [← en, ← em] at hg0 hb0 ⊢
  rw [← en, ← em] at HB
  have EN := hid en
  have EM := hid em
  have HG0 := hid hg0
  have HB0 := hid hb0
  clear h hb en em hg0 hb0
  obtain ⟨sz, es⟩ : ∃ sz, sz = sel.size := ⟨_, rfl⟩
  by_cases h1 : 1100 < sel.size
  · obtain rfl : b = true := HB.out.2 (.inl h1)
    have f1 : (1100 : Int) < sel.size := by omega
    clear h1
    go_enter Tryz.func27, Tryz.ntmps27
    go_wp2_with fail
    go_ret
    exact ⟨rfl, HG0.out⟩
  · have f1 : ¬ (1100 : Int) < sel.size := by omega
    have HS := hid h1
    clear h1
    by_cases h2 : 70 < n
    · obtain rfl : b = true := HB.out.2 (.inr (.inl h2))
      have f2 : (70 : Int) < n := by omega
      clear h2
      go_enter Tryz.func27, Tryz.ntmps27
      go_wp2_with fail
      go_ret
      exact ⟨rfl, HG0.out⟩
    · have f2 : ¬ (70 : Int) < n := by omega
      by_cases h3 : 70 < m
      · obtain rfl : b = true := HB.out.2 (.inr (.inr (.inl h3)))
        have f3 : (70 : Int) < m := by omega
        clear h3
        go_enter Tryz.func27, Tryz.ntmps27
        go_wp2_with fail
        go_ret
        exact ⟨rfl, HG0.out⟩
      · have f3 : ¬ (70 : Int) < m := by omega
        go_enter Tryz.func27, Tryz.ntmps27
        go_wp2_with fail
        generalize w.alloc (.cells #[.string sel, .slice A1 n c1, .slice A2 m c2] 67) = w1 at *
        generalize w.heap.size = g at *
        clear f1 f2 f3
        go_loopw [3] (fun s3 wr => ∃ i : Nat, s3 = .int .i64 ((i : Nat) : Int) ∧ i ≤ n ∧ wr = w1 ∧ Hid (∀ x ∈ lits.take i, ¬ 1100 < x.s.size)) (fun s3 _ => n - (intOf s3).toNat)
        case atStart => exact ⟨0, rfl, Nat.zero_le _, rfl, hid (by simp)⟩
        case round =>
          obtain ⟨i, rfl, hi, rfl, HI⟩ := hrel
          have m1 := HB0.out.cell 1
          have m2 := HB0.out.cell 2
          simp only [List.getElem?_toArray, List.getElem?_cons_zero, List.getElem?_cons_succ] at m1 m2
          by_cases hlt : i < n
          · have f1 : (i : Int) < n := by omega
            obtain ⟨ad, x, rfl, hx, q0, q1, _⟩ := argLit_at HA.out HG0.out (i := i) (by rw [← EN.out]; exact hlt)
            have HX : Hid (1100 < x.s.size → b = true) := hid (fun hf => HB.out.2 (.inr (.inr (.inr (.inl ⟨x, List.mem_of_getElem? hx, hf⟩)))))
            have HY : Hid (¬ 1100 < x.s.size → ∀ x ∈ lits.take (i + 1), ¬ 1100 < x.s.size) := hid (fun hf y hy => by
              rw [List.take_add_one, hx] at hy
              rcases List.mem_append.1 hy with hy | hy
              · exact HI.out y hy
              · obtain rfl : y = x := by simpa using hy
                exact hf)
            clear hx
            obtain ⟨k, s⟩ := x
            simp only at q0 q1 HX HY
            by_cases hs : 1100 < s.size
            · obtain rfl : b = true := HX.out hs
              have f4 : (1100 : Int) < s.size := by omega
              clear hs
              go_wp2_with fail
              go_ret
              exact ⟨rfl, HG0.out⟩
            · have f4 : ¬ (1100 : Int) < s.size := by omega
              have HY2 := hid (HY.out hs)
              clear hs
              go_wp2_with fail
              go_round
              case rel => exact ⟨i + 1, by go_num, by omega, by trivial, HY2⟩
              case measure => simp [intOf]; omega
          · have hin : i = n := by omega
            subst hin
            have HL : Hid (∀ x ∈ lits, ¬ 1100 < x.s.size) := hid (by
              have := HI.out
              rwa [EN.out, List.take_length] at this)
            clear HI
            go_wp2_with fail
            clear m1 m2
            go_loopw [4] (fun s4 wr' => ∃ j : Nat, s4 = .int .i64 ((j : Nat) : Int) ∧ j ≤ m ∧ wr' = wr ∧ Hid (∀ q ∈ vs.take j, ¬ 600 < q.p.code.length)) (fun s4 _ => m - (intOf s4).toNat)
            case atStart => exact ⟨0, rfl, Nat.zero_le _, rfl, hid (by simp)⟩
            case round =>
              obtain ⟨j, rfl, hj, rfl, HJ⟩ := hrel
              have m1 := HB0.out.cell 1
              have m2 := HB0.out.cell 2
              simp only [List.getElem?_toArray, List.getElem?_cons_zero, List.getElem?_cons_succ] at m1 m2
              by_cases hlt : j < m
              · have f1 : (j : Int) < m := by omega
                obtain ⟨ad, v, rfl, hv, q0, q1, q2, q3, _⟩ := argPart_at HP.out HG0.out (i := j) (by rw [← EM.out]; exact hlt)
                have HX : Hid (600 < v.p.code.length → b = true) := hid (fun hf => HB.out.2 (.inr (.inr (.inr (.inr ⟨v, List.mem_of_getElem? hv, hf⟩)))))
                have HY : Hid (¬ 600 < v.p.code.length → ∀ q ∈ vs.take (j + 1), ¬ 600 < q.p.code.length) := hid (fun hf y hy => by
                  rw [List.take_add_one, hv] at hy
                  rcases List.mem_append.1 hy with hy | hy
                  · exact HJ.out y hy
                  · obtain rfl : y = v := by simpa using hy
                    exact hf)
                clear hv
                obtain ⟨⟨po, pa, pt, code⟩, Ac, cc⟩ := v
                simp only at q0 q1 q2 q3 HX HY
                generalize code.length = cl at *
                by_cases hs : 600 < cl
                · obtain rfl : b = true := HX.out hs
                  have f4 : (600 : Int) < cl := by omega
                  clear hs
                  go_wp2_with fail
                  go_ret
                  exact ⟨rfl, HG0.out⟩
                · have f4 : ¬ (600 : Int) < cl := by omega
                  have HY2 := hid (HY.out hs)
                  clear hs
                  go_wp2_with fail
                  go_round
                  case rel => exact ⟨j + 1, by go_num, by omega, by trivial, HY2⟩
                  case measure => simp [intOf]; omega
              · have hjm : j = m := by omega
                subst hjm
                have HQ : Hid (∀ q ∈ vs, ¬ 600 < q.p.code.length) := hid (by
                  have := HJ.out
                  rwa [EM.out, List.take_length] at this)
                clear HJ
                have hbf : b = false := by
                  cases hbb : b
                  · rfl
                  · rcases HB.out.1 hbb with h | h | h | ⟨x, hx, h⟩ | ⟨q, hq, h⟩
                    · exact absurd h HS.out
                    · omega
                    · omega
                    · exact absurd h (HL.out x hx)
                    · exact absurd h (HQ.out q hq)
                subst hbf
                go_wp2_with fail
                go_ret
                exact ⟨rfl, HG0.out⟩
end Go.Proofs.YtjladeiecokpfaaGreatDoor

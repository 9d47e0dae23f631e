/- Stage 9: methods in memory; slices.ContainsFunc over literals, parts and instructions. -/
import Derived.Test.YtjdgcgpidhljpaaGreatDoorMtQ
import Derived.Test.YtjdgcgpidhljpaaGreatDoorMtF
import Derived.Test.YtjdgcgpidhljpaaGreatDoorYFlC
import Derived.Test.YtjdgcgpidhljpaaGreatDoorYPlB
import Derived.Test.YtjdgcgpidhljpaaGreatDoorYPkC
namespace Go.Proofs.YtjdgcgpidhljpaaGreatDoor
open Go.RowKit

theorem add_pos {a : Addr} {j : Nat} (hj : j ≠ 0) : a.add j = ⟨a.block, a.off + j, none⟩ := by simp [Addr.add, hj]
def litCells2 (x : Mt.Lit) : Array Value := #[.int .u8 ((x.k : Nat) : Int), .string x.s]
/-- Literals that lie one behind the other. -/
def LitsAt (w : World) (A : Option Addr) (l : List Mt.Lit) : Prop :=
  (∀ x ∈ l, x.k < 256 ∧ x.s.size ≤ 2000) ∧ (0 < l.length → ∃ ad, A = some ad ∧ ad.block < w.heap.size ∧ ∀ i x, l[i]? = some x → ∀ j u, (litCells2 x)[j]? = some u → w.cell? (ad.add (i * 2 + j)) = some u)
theorem lit_cell {w : World} {ad : Addr} {i : Nat} {x : Mt.Lit} (h : ∀ j u, (litCells2 x)[j]? = some u → w.cell? (ad.add (i * 2 + j)) = some u) :
    w.cell? (ad.add (i * 2)) = some (.int .u8 ((x.k : Nat) : Int)) ∧ w.cell? ⟨ad.block, (ad.add (i * 2)).off + 1, none⟩ = some (.string x.s) := by
  refine ⟨h 0 _ rfl, ?_⟩
  have := h 1 _ rfl
  rwa [← add_add, add_pos (by decide), block_add] at this
theorem LitsAt.grew {w w' : World} {A : Option Addr} {l : List Mt.Lit} (h : LitsAt w A l) (hg : Grew w w') : LitsAt w' A l := ⟨h.1, fun hl => by
  obtain ⟨ad, h1, h2, h3⟩ := h.2 hl
  exact ⟨ad, h1, Nat.lt_of_lt_of_le h2 hg.below.size, fun i x hi j u hu => (hg.below.cell (by rw [block_add]; exact h2)).trans (h3 i x hi j u hu)⟩⟩
/-- A part, and where its code lies. -/
structure PV where
  p : Mt.Part
  A : Option Addr
  c : Nat
def pvCells (v : PV) : Array Value := #[.int .i64 v.p.outer, .int .i64 v.p.args, .int .i64 v.p.temps, .slice v.A v.p.code.length v.c]
def PvOk (w : World) (v : PV) : Prop := BytesAt w w.heap.size v.A v.p.code ∧ v.p.code.length ≤ v.c ∧ v.c ≤ 9223372036854775807 ∧ v.p.code.length ≤ 1000
theorem PvOk.grew {w w' : World} {v : PV} (h : PvOk w v) (hg : Grew w w') : PvOk w' v := ⟨h.1.grew hg, h.2⟩
/-- Parts that lie one behind the other. -/
def PartsAt (w : World) (A : Option Addr) (l : List PV) : Prop :=
  (∀ v ∈ l, PvOk w v) ∧ (0 < l.length → ∃ ad, A = some ad ∧ ad.block < w.heap.size ∧ ∀ i v, l[i]? = some v → ∀ j u, (pvCells v)[j]? = some u → w.cell? (ad.add (i * 4 + j)) = some u)
theorem pv_cell {w : World} {ad : Addr} {i : Nat} {v : PV} (h : ∀ j u, (pvCells v)[j]? = some u → w.cell? (ad.add (i * 4 + j)) = some u) :
    w.cell? (ad.add (i * 4)) = some (.int .i64 v.p.outer) ∧ w.cell? ⟨ad.block, (ad.add (i * 4)).off + 1, none⟩ = some (.int .i64 v.p.args) ∧ w.cell? ⟨ad.block, (ad.add (i * 4)).off + 2, none⟩ = some (.int .i64 v.p.temps) ∧ w.cell? ⟨ad.block, (ad.add (i * 4)).off + 3, none⟩ = some (.slice v.A v.p.code.length v.c) := by
  refine ⟨h 0 _ rfl, ?_, ?_, ?_⟩
  · have := h 1 _ rfl
    rwa [← add_add, add_pos (by decide), block_add] at this
  · have := h 2 _ rfl
    rwa [← add_add, add_pos (by decide), block_add] at this
  · have := h 3 _ rfl
    rwa [← add_add, add_pos (by decide), block_add] at this
theorem PartsAt.grew {w w' : World} {A : Option Addr} {l : List PV} (h : PartsAt w A l) (hg : Grew w w') : PartsAt w' A l := ⟨fun v hv => (h.1 v hv).grew hg, fun hl => by
  obtain ⟨ad, h1, h2, h3⟩ := h.2 hl
  exact ⟨ad, h1, Nat.lt_of_lt_of_le h2 hg.below.size, fun i x hi j u hu => (hg.below.cell (by rw [block_add]; exact h2)).trans (h3 i x hi j u hu)⟩⟩
/-- A method, and where its slices lie. -/
structure MV where
  sel : ByteArray
  lits : List Mt.Lit
  A1 : Option Addr
  c1 : Nat
  vs : List PV
  A2 : Option Addr
  c2 : Nat
def MV.m (v : MV) : Mt.Meth := ⟨v.sel, v.lits, v.vs.map (·.p)⟩
def mvCells (v : MV) : Array Value := #[.string v.sel, .slice v.A1 v.lits.length v.c1, .slice v.A2 v.vs.length v.c2]
structure MethAt (w : World) (v : MV) : Prop where
  sel : v.sel.size ≤ 2000
  lits : LitsAt w v.A1 v.lits
  l1 : v.lits.length ≤ 100
  parts : PartsAt w v.A2 v.vs
  l2 : v.vs.length ≤ 100
theorem MethAt.grew {w w' : World} {v : MV} (h : MethAt w v) (hg : Grew w w') : MethAt w' v := ⟨h.sel, h.lits.grew hg, h.l1, h.parts.grew hg, h.l2⟩

set_option maxRecDepth 100000 in
set_option maxHeartbeats 2000000 in
theorem idxLit_c (g : Nat) (lb : Array Value) (eg : ∀ args w, (callFunc g args).run Tryz.prog w = .ok (.enter g args) w) (p : Mt.Lit → Bool) (A : Option Addr) (c : Nat) (l : List Mt.Lit) (w : World) (h : LitsAt w A l) (hl : l.length ≤ 1000000)
    (hp : ∀ x ∈ l, ∀ W, Grew w W → Calls Tryz.prog g (#[.agg #[.int .u8 ((x.k : Nat) : Int), .string x.s]] ++ lb) W fun e w' => e = .returned (.bool (p x)) ∧ Grew W w') :
    Calls Tryz.prog 97 #[.slice A l.length c, .func (.func g) #[] lb] w fun e w' => (∃ r : Int, e = .returned (.int .i64 r) ∧ (0 ≤ r ↔ l.any p = true)) ∧ Grew w w' := by
  obtain ⟨n, en⟩ : ∃ n, n = l.length := ⟨_, rfl⟩
  have HA := hid h
  have HP := hid hp
  rw [← en] at hl ⊢
  have EN := hid en
  clear h hp en
  go_enter Tryz.func97, Tryz.ntmps97
  go_wp2_with fail
  go_loopw [5, 8] (fun _ s8 wr => ∃ i : Nat, s8 = .int .i64 ((i : Nat) : Int) ∧ i ≤ n ∧ Grew w wr ∧ Hid ((l.take i).any p = false)) (fun _ s8 _ => n - (intOf s8).toNat)
  case atStart => exact ⟨0, rfl, Nat.zero_le _, Grew.refl _, hid (by simp)⟩
  case round =>
    obtain ⟨i, rfl, hi, hg, HI⟩ := hrel
    have HG := hid hg
    clear hg
    by_cases hlt : i < n
    · have f1 : (i : Int) < n := by omega
      obtain ⟨ad, rfl, hb, hc⟩ := HA.out.2 (by rw [← EN.out]; omega)
      obtain ⟨x, hx⟩ : ∃ x, l[i]? = some x := ⟨_, List.getElem?_eq_getElem (show i < l.length by rw [← EN.out]; exact hlt)⟩
      obtain ⟨q0, q1⟩ := lit_cell (x := x) (i := i) (ad := ad) (w := wr) (fun j u hu => by
        rw [HG.out.below.cell (by rw [block_add]; exact hb)]; exact hc i x hx j u hu)
      have HT : Hid ((l.take (i + 1)).any p = p x) := hid (by
        rw [List.take_add_one, hx, List.any_append, HI.out]
        simp)
      have HX : Hid (p x = true → l.any p = true) := hid (fun hf => List.any_eq_true.2 ⟨x, List.mem_of_getElem? hx, hf⟩)
      have hcall := HP.out x (List.mem_of_getElem? hx) wr HG.out
      generalize p x = b at hcall HT HX
      clear hc hx
      obtain ⟨k, s⟩ := x
      simp only at q0 q1 hcall
      cases b
      · go_wp2_with (go_at_fn g; refine hcall.mono ?_; rintro e w2 ⟨rfl, hg2⟩)
        go_round
        case rel => exact ⟨i + 1, by go_num, by omega, HG.out.trans hg2, HT⟩
        case measure => simp [intOf]; omega
      · go_wp2_with (go_at_fn g; refine hcall.mono ?_; rintro e w2 ⟨rfl, hg2⟩)
        go_ret
        exact ⟨⟨_, rfl, by rw [HX.out (by trivial)]; simp⟩, HG.out.trans hg2⟩
    · have hin : i = n := by omega
      subst hin
      go_wp2_with fail
      go_ret
      refine ⟨⟨_, rfl, ?_⟩, HG.out⟩
      have := HI.out
      rw [EN.out, List.take_length] at this
      rw [this]
      simp
theorem anyLit_c (g : Nat) (lb : Array Value) (eg : ∀ args w, (callFunc g args).run Tryz.prog w = .ok (.enter g args) w) (p : Mt.Lit → Bool) (A : Option Addr) (c : Nat) (l : List Mt.Lit) (w : World) (h : LitsAt w A l) (hl : l.length ≤ 1000000)
    (hp : ∀ x ∈ l, ∀ W, Grew w W → Calls Tryz.prog g (#[.agg #[.int .u8 ((x.k : Nat) : Int), .string x.s]] ++ lb) W fun e w' => e = .returned (.bool (p x)) ∧ Grew W w') :
    Calls Tryz.prog 52 #[.slice A l.length c, .func (.func g) #[] lb] w fun e w' => e = .returned (.bool (l.any p)) ∧ Grew w w' := by
  have HI := hid (idxLit_c g lb eg p A c l w h hl hp)
  clear h hp hl eg
  generalize l.any p = b at *
  generalize l.length = n at *
  go_enter Tryz.func52, Tryz.ntmps52
  go_wp2_with fail
  refine HI.out.mono ?_
  rintro e w1 ⟨⟨r, rfl, hr⟩, hg⟩
  have HD := hid (show decide ((0 : Int) ≤ r) = b by rw [Bool.eq_iff_iff, decide_eq_true_iff]; exact hr)
  clear hr
  go_wp2_with fail
  go_ret
  exact ⟨congrArg (fun z => Ending.returned (.bool z)) HD.out, hg⟩
set_option maxRecDepth 100000 in
set_option maxHeartbeats 2000000 in
theorem idxPart_c (g : Nat) (lb : Array Value) (eg : ∀ args w, (callFunc g args).run Tryz.prog w = .ok (.enter g args) w) (p : PV → Bool) (A : Option Addr) (c : Nat) (l : List PV) (w : World) (h : PartsAt w A l) (hl : l.length ≤ 1000000)
    (hp : ∀ x ∈ l, ∀ W, Grew w W → Calls Tryz.prog g (#[.agg (pvCells x)] ++ lb) W fun e w' => e = .returned (.bool (p x)) ∧ Grew W w') :
    Calls Tryz.prog 104 #[.slice A l.length c, .func (.func g) #[] lb] w fun e w' => (∃ r : Int, e = .returned (.int .i64 r) ∧ (0 ≤ r ↔ l.any p = true)) ∧ Grew w w' := by
  obtain ⟨n, en⟩ : ∃ n, n = l.length := ⟨_, rfl⟩
  have HA := hid h
  have HP := hid hp
  rw [← en] at hl ⊢
  have EN := hid en
  clear h hp en
  go_enter Tryz.func104, Tryz.ntmps104
  go_wp2_with fail
  go_loopw [5, 8] (fun _ s8 wr => ∃ i : Nat, s8 = .int .i64 ((i : Nat) : Int) ∧ i ≤ n ∧ Grew w wr ∧ Hid ((l.take i).any p = false)) (fun _ s8 _ => n - (intOf s8).toNat)
  case atStart => exact ⟨0, rfl, Nat.zero_le _, Grew.refl _, hid (by simp)⟩
  case round =>
    obtain ⟨i, rfl, hi, hg, HI⟩ := hrel
    have HG := hid hg
    clear hg
    by_cases hlt : i < n
    · have f1 : (i : Int) < n := by omega
      obtain ⟨ad, rfl, hb, hc⟩ := HA.out.2 (by rw [← EN.out]; omega)
      obtain ⟨x, hx⟩ : ∃ x, l[i]? = some x := ⟨_, List.getElem?_eq_getElem (show i < l.length by rw [← EN.out]; exact hlt)⟩
      obtain ⟨q0, q1, q2, q3⟩ := pv_cell (v := x) (i := i) (ad := ad) (w := wr) (fun j u hu => by
        rw [HG.out.below.cell (by rw [block_add]; exact hb)]; exact hc i x hx j u hu)
      have HT : Hid ((l.take (i + 1)).any p = p x) := hid (by
        rw [List.take_add_one, hx, List.any_append, HI.out]
        simp)
      have HX : Hid (p x = true → l.any p = true) := hid (fun hf => List.any_eq_true.2 ⟨x, List.mem_of_getElem? hx, hf⟩)
      have hcall := HP.out x (List.mem_of_getElem? hx) wr HG.out
      generalize p x = b at hcall HT HX
      clear hc hx
      obtain ⟨⟨po, pa, pt, code⟩, Ac, cc⟩ := x
      unfold pvCells at hcall
      simp only at q0 q1 q2 q3 hcall
      cases b
      · go_wp2_with (go_at_fn g; refine hcall.mono ?_; rintro e w2 ⟨rfl, hg2⟩)
        go_round
        case rel => exact ⟨i + 1, by go_num, by omega, HG.out.trans hg2, HT⟩
        case measure => simp [intOf]; omega
      · go_wp2_with (go_at_fn g; refine hcall.mono ?_; rintro e w2 ⟨rfl, hg2⟩)
        go_ret
        exact ⟨⟨_, rfl, by rw [HX.out (by trivial)]; simp⟩, HG.out.trans hg2⟩
    · have hin : i = n := by omega
      subst hin
      go_wp2_with fail
      go_ret
      refine ⟨⟨_, rfl, ?_⟩, HG.out⟩
      have := HI.out
      rw [EN.out, List.take_length] at this
      rw [this]
      simp
theorem anyPart_c (g : Nat) (lb : Array Value) (eg : ∀ args w, (callFunc g args).run Tryz.prog w = .ok (.enter g args) w) (p : PV → Bool) (A : Option Addr) (c : Nat) (l : List PV) (w : World) (h : PartsAt w A l) (hl : l.length ≤ 1000000)
    (hp : ∀ x ∈ l, ∀ W, Grew w W → Calls Tryz.prog g (#[.agg (pvCells x)] ++ lb) W fun e w' => e = .returned (.bool (p x)) ∧ Grew W w') :
    Calls Tryz.prog 64 #[.slice A l.length c, .func (.func g) #[] lb] w fun e w' => e = .returned (.bool (l.any p)) ∧ Grew w w' := by
  have HI := hid (idxPart_c g lb eg p A c l w h hl hp)
  clear h hp hl eg
  generalize l.any p = b at *
  generalize l.length = n at *
  go_enter Tryz.func64, Tryz.ntmps64
  go_wp2_with fail
  refine HI.out.mono ?_
  rintro e w1 ⟨⟨r, rfl, hr⟩, hg⟩
  have HD := hid (show decide ((0 : Int) ≤ r) = b by rw [Bool.eq_iff_iff, decide_eq_true_iff]; exact hr)
  clear hr
  go_wp2_with fail
  go_ret
  exact ⟨congrArg (fun z => Ending.returned (.bool z)) HD.out, hg⟩
set_option maxRecDepth 100000 in
set_option maxHeartbeats 2000000 in
theorem idxOp_c (g : Nat) (lb : Array Value) (eg : ∀ args w, (callFunc g args).run Tryz.prog w = .ok (.enter g args) w) (p : Op7.Ins → Bool) (A : Option Addr) (c : Nat) (l : List Op7.Ins) (w : World) (h : OpsAt w w.heap.size A l) (hl : l.length ≤ 1000000)
    (hp : ∀ x ∈ l, ∀ W, Grew w W → Calls Tryz.prog g (#[.agg (opCells x)] ++ lb) W fun e w' => e = .returned (.bool (p x)) ∧ Grew W w') :
    Calls Tryz.prog 103 #[.slice A l.length c, .func (.func g) #[] lb] w fun e w' => (∃ r : Int, e = .returned (.int .i64 r) ∧ (0 ≤ r ↔ l.any p = true)) ∧ Grew w w' := by
  obtain ⟨n, en⟩ : ∃ n, n = l.length := ⟨_, rfl⟩
  have HA := hid h
  have HP := hid hp
  rw [← en] at hl ⊢
  have EN := hid en
  clear h hp en
  go_enter Tryz.func103, Tryz.ntmps103
  go_wp2_with fail
  go_loopw [5, 8] (fun _ s8 wr => ∃ i : Nat, s8 = .int .i64 ((i : Nat) : Int) ∧ i ≤ n ∧ Grew w wr ∧ Hid ((l.take i).any p = false)) (fun _ s8 _ => n - (intOf s8).toNat)
  case atStart => exact ⟨0, rfl, Nat.zero_le _, Grew.refl _, hid (by simp)⟩
  case round =>
    obtain ⟨i, rfl, hi, hg, HI⟩ := hrel
    have HG := hid hg
    clear hg
    by_cases hlt : i < n
    · have f1 : (i : Int) < n := by omega
      obtain ⟨ad, rfl, hb, hc⟩ := HA.out.2 (by rw [← EN.out]; omega)
      obtain ⟨x, hx⟩ : ∃ x, l[i]? = some x := ⟨_, List.getElem?_eq_getElem (show i < l.length by rw [← EN.out]; exact hlt)⟩
      obtain ⟨q0, q1, q2⟩ := op_cell (o := x) (i := i) (ad := ad) (w := wr) (fun j u hu => by
        rw [HG.out.below.cell (by rw [block_add]; exact hb)]; exact hc i x hx j u hu)
      have HT : Hid ((l.take (i + 1)).any p = p x) := hid (by
        rw [List.take_add_one, hx, List.any_append, HI.out]
        simp)
      have HX : Hid (p x = true → l.any p = true) := hid (fun hf => List.any_eq_true.2 ⟨x, List.mem_of_getElem? hx, hf⟩)
      have hcall := HP.out x (List.mem_of_getElem? hx) wr HG.out
      generalize p x = b at hcall HT HX
      clear hc hx
      obtain ⟨cd, oa, ob⟩ := x
      unfold opCells at hcall
      simp only at q0 q1 q2 hcall
      cases b
      · go_wp2_with (go_at_fn g; refine hcall.mono ?_; rintro e w2 ⟨rfl, hg2⟩)
        go_round
        case rel => exact ⟨i + 1, by go_num, by omega, HG.out.trans hg2, HT⟩
        case measure => simp [intOf]; omega
      · go_wp2_with (go_at_fn g; refine hcall.mono ?_; rintro e w2 ⟨rfl, hg2⟩)
        go_ret
        exact ⟨⟨_, rfl, by rw [HX.out (by trivial)]; simp⟩, HG.out.trans hg2⟩
    · have hin : i = n := by omega
      subst hin
      go_wp2_with fail
      go_ret
      refine ⟨⟨_, rfl, ?_⟩, HG.out⟩
      have := HI.out
      rw [EN.out, List.take_length] at this
      rw [this]
      simp
theorem anyOp_c (g : Nat) (lb : Array Value) (eg : ∀ args w, (callFunc g args).run Tryz.prog w = .ok (.enter g args) w) (p : Op7.Ins → Bool) (A : Option Addr) (c : Nat) (l : List Op7.Ins) (w : World) (h : OpsAt w w.heap.size A l) (hl : l.length ≤ 1000000)
    (hp : ∀ x ∈ l, ∀ W, Grew w W → Calls Tryz.prog g (#[.agg (opCells x)] ++ lb) W fun e w' => e = .returned (.bool (p x)) ∧ Grew W w') :
    Calls Tryz.prog 59 #[.slice A l.length c, .func (.func g) #[] lb] w fun e w' => e = .returned (.bool (l.any p)) ∧ Grew w w' := by
  have HI := hid (idxOp_c g lb eg p A c l w h hl hp)
  clear h hp hl eg
  generalize l.any p = b at *
  generalize l.length = n at *
  go_enter Tryz.func59, Tryz.ntmps59
  go_wp2_with fail
  refine HI.out.mono ?_
  rintro e w1 ⟨⟨r, rfl, hr⟩, hg⟩
  have HD := hid (show decide ((0 : Int) ≤ r) = b by rw [Bool.eq_iff_iff, decide_eq_true_iff]; exact hr)
  clear hr
  go_wp2_with fail
  go_ret
  exact ⟨congrArg (fun z => Ending.returned (.bool z)) HD.out, hg⟩
end Go.Proofs.YtjdgcgpidhljpaaGreatDoor

/- HeapRuns: the program's memory beside the reference's. -/
import Derived.Test.YtidnaednldcdfaaGreatDoorGeJ
import Derived.Test.YtidnaednldcdfaaGreatDoorGeL
import Derived.Test.YtidnaednldcdfaaGreatDoorGeO
import Derived.Test.YtidnaednldcdfaaGreatDoorGeS
import Derived.Test.YtidnaednldcdfaaGreatDoorGeV
import Derived.Test.YtidnaednldcdfaaGreatDoorGeG
namespace Go.Proofs.YtidnaednldcdfaaGreatDoor
open Go.RowKit

/-- What the operations of 'h.Add(x.O.Class, x.O.Level, giveVals(x.O.F), x.O.B)' give, whatever h is. -/
def GgF (w0 : World) (PA : World → Prop) (sg gx : Nat) (cls lev : Int) (oA : Option Addr) (m oc : Nat) (b : ByteArray) (cs : List Value) (r : Int) (er : Value) (j : Nat) (v : Value) (w : World) : Prop := match j with
  | 0 => v = .pointer (some ⟨sg, 0, none⟩)
  | 1 => v = .pointer (some ⟨gx, 1, none⟩)
  | 2 => v = .pointer (some ⟨gx, 1, none⟩)
  | 3 => v = .int .i64 cls
  | 4 => v = .pointer (some ⟨gx, 1, none⟩)
  | 5 => v = .pointer (some ⟨gx, 2, none⟩)
  | 6 => v = .int .i64 lev
  | 7 => v = .pointer (some ⟨gx, 1, none⟩)
  | 8 => v = .pointer (some ⟨gx, 3, none⟩)
  | 9 => v = .slice oA m oc
  | 10 => ∃ A' c', v = .slice A' m c' ∧ Row w w0.heap.size 41 3 A' m c' cs
  | 11 => v = .pointer (some ⟨gx, 1, none⟩)
  | 12 => v = .pointer (some ⟨gx, 4, none⟩)
  | 13 => v = .string b
  | 14 => v = .tuple #[.int .i64 r, er] ∧ PA w
  | 15 => v = .tuple #[.int .i64 r, er]
  | 16 => v = .int .i64 r
  | 17 => v = er
  | 18 => v = .int .i64 r
  | 19 => v = er
  | _ => True
theorem GgF.stable {w0 : World} {PA : World → Prop} {own : Nat → Prop} {sg gx : Nat} {cls lev : Int} {oA : Option Addr} {m oc : Nat} {b : ByteArray} {cs : List Value} {r : Int} {er : Value} (hO : ∀ k, own k → k < w0.heap.size) (hP : ∀ w w', PA w → Grew w w' → PA w') (i j : Nat) (v : Value) (w w' : World) (hab : i ≠ j) (h : GgF w0 PA sg gx cls lev oA m oc b cs r er i v w) (hr : GRo 14 own j w w') : GgF w0 PA sg gx cls lev oA m oc b cs r er i v w' := by
  have hz := GRo.zero j w w' hr
  unfold GgF at h ⊢
  split at h <;> first | exact h | skip
  · obtain ⟨A', c', h1, h2⟩ := h
    exact ⟨A', c', h1, h2.kept hz (fun g hg hk => by have h3 := Row.at_base h2 g ⟨_, hg, rfl⟩; have h4 := hO g hk; omega)⟩
  · exact ⟨h.1, hP _ _ h.2 (hr.off (fun e => hab e.symm))⟩
def GgJ (w0 : World) (M : World → Prop) (gx : Nat) (xc : Array Value) (f : Nat → Bool) (w : World) : Prop :=
  Blk w gx 62 xc ∧ (f 14 = false → M w ∧ Grew w0 w)
theorem GgJ.grew {w0 w w' : World} {M : World → Prop} {gx : Nat} {xc : Array Value} {f : Nat → Bool} (h : GgJ w0 M gx xc f w) (hM : ∀ w w', M w → Grew w w' → M w') (hg : Grew w w') : GgJ w0 M gx xc f w' :=
  ⟨h.1.grew hg, fun hf => ⟨hM _ _ (h.2 hf).1 hg, (h.2 hf).2.trans hg⟩⟩
theorem GgJ.pure {w0 w : World} {M : World → Prop} {gx : Nat} {xc : Array Value} {f : Nat → Bool} (h : GgJ w0 M gx xc f w) (k : Nat) (hk : 14 ≠ k) : GgJ w0 M gx xc (updF f k) w :=
  ⟨h.1, fun hf => h.2 (by unfold updF at hf; rw [if_neg hk] at hf; exact hf)⟩
theorem GgJ.add {w0 w w' : World} {M : World → Prop} {own : Nat → Prop} {gx : Nat} {xc : Array Value} {f : Nat → Bool} (h : GgJ w0 M gx xc f w) (hk : Kept own w w') (hx : ¬ own gx) : GgJ w0 M gx xc (updF f 14) w' := by
  refine ⟨h.1.kept hk hx, fun hf2 => ?_⟩
  unfold updF at hf2
  rw [if_pos rfl] at hf2
  cases hf2
/-- What New gives: a memory, or none. -/
def PnV (ok : Bool) (w0 : World) (up : List Nat) (room : Int) (q : Nat → Int) (p : Value) (w : World) : Prop := if ok = true then ∃ h : HV, p = .pointer (some ⟨h.g, 0, none⟩) ∧ HAt w0 w w0.heap.size 0 h up room q [] (fun _ => 0) else p = .pointer none
theorem PnV.grew {ok : Bool} {w0 : World} {up : List Nat} {room : Int} {q : Nat → Int} {p : Value} {w w' : World} (h : PnV ok w0 up room q p w) (hg : Grew w w') : PnV ok w0 up room q p w' := by
  unfold PnV at h ⊢
  split
  · rename_i e
    rw [if_pos e] at h
    obtain ⟨x, h1, h2⟩ := h
    exact ⟨x, h1, h2.more hg⟩
  · rename_i e
    rwa [if_neg e] at h
theorem PnV.from {ok : Bool} {w0 w1 : World} {up : List Nat} {room : Int} {q : Nat → Int} {p : Value} {w : World} (h : PnV ok w1 up room q p w) (hg : Grew w0 w1) : PnV ok w0 up room q p w := by
  unfold PnV at h ⊢
  split
  · rename_i e
    rw [if_pos e] at h
    obtain ⟨x, h1, h2⟩ := h
    exact ⟨x, h1, h2.from hg⟩
  · rename_i e
    rwa [if_neg e] at h
/-- What the operations of New's call give. -/
def NeF (w0 : World) (gs : Nat) (U : Option Addr) (cu : Nat) (up : List Nat) (room : Int) (Q : Option Addr) (cq : Nat) (quota : List Int) (ok : Bool) (er : Value) (j : Nat) (v : Value) (w : World) : Prop := match j with
  | 0 => ∃ H, v = .slice (some ⟨H, 0, none⟩) 0 0 ∧ Blk w H 5 #[]
  | 1 => v = .pointer (some ⟨gs, 0, none⟩)
  | 2 => v = .slice U up.length cu
  | 3 => ∃ A' c', v = .slice A' up.length c' ∧ BytesAt w w.heap.size A' up
  | 4 => ∃ A' c', v = .agg #[.slice A' up.length c'] ∧ BytesAt w w.heap.size A' up
  | 5 => v = .pointer (some ⟨gs, 1, none⟩)
  | 6 => v = .int .i64 room
  | 7 => ∃ H, v = .slice (some ⟨H, 0, none⟩) 0 0 ∧ Blk w H 3 #[]
  | 8 => v = .pointer (some ⟨gs, 2, none⟩)
  | 9 => v = .slice Q quota.length cq
  | 10 => ∃ A' c', v = .slice A' quota.length c' ∧ IntsAt w A' quota
  | 11 => ∃ p, v = .tuple #[p, er] ∧ PnV ok w0 up room (qf room quota) p w
  | 12 => ∃ p, v = .tuple #[p, er] ∧ PnV ok w0 up room (qf room quota) p w
  | 13 => PnV ok w0 up room (qf room quota) v w
  | 14 => v = er
  | 15 => PnV ok w0 up room (qf room quota) v w
  | 16 => v = er
  | _ => True
theorem NeF.grew {w0 : World} {gs : Nat} {U : Option Addr} {cu : Nat} {up : List Nat} {room : Int} {Q : Option Addr} {cq : Nat} {quota : List Int} {ok : Bool} {er : Value} (j : Nat) (v : Value) (w w' : World) (h : NeF w0 gs U cu up room Q cq quota ok er j v w) (hg : Grew w w') : NeF w0 gs U cu up room Q cq quota ok er j v w' := by
  unfold NeF at h ⊢
  split at h <;> first | exact h | exact h.grew hg | skip
  · obtain ⟨H, h1, h2⟩ := h
    exact ⟨H, h1, h2.grew hg⟩
  · obtain ⟨A', c', h1, h2⟩ := h
    exact ⟨A', c', h1, h2.grew hg⟩
  · obtain ⟨A', c', h1, h2⟩ := h
    exact ⟨A', c', h1, h2.grew hg⟩
  · obtain ⟨H, h1, h2⟩ := h
    exact ⟨H, h1, h2.grew hg⟩
  · obtain ⟨A', c', h1, h2⟩ := h
    exact ⟨A', c', h1, h2.grew hg⟩
  · obtain ⟨p, h1, h2⟩ := h
    exact ⟨p, h1, h2.grew hg⟩
  · obtain ⟨p, h1, h2⟩ := h
    exact ⟨p, h1, h2.grew hg⟩
theorem bigS_fit2 {n m : Nat} (h : bigS n m = false) : n ≤ 20 ∧ m ≤ 20 := by
  unfold bigS at h
  simp only [Bool.or_eq_false_iff, decide_eq_false_iff_not] at h
  omega
theorem pn_new {w w' : World} {up : List Nat} {room : Int} {quota : List Int} {e : Ending} (h : NewV w up room quota e w') : ∃ p, e = .returned (.tuple #[p, errVal (newCode up room quota)]) ∧ PnV (decide (newCode up room quota = 0)) w up room (qf room quota) p w' ∧ Grew w w' := by
  unfold NewV at h
  by_cases hc : newCode up room quota = 0
  · rw [if_pos hc] at h
    obtain ⟨v, he, h1, h2, h3, h4, h5, h6, h7, h8⟩ := h
    refine ⟨_, by rw [he, hc]; rfl, ?_, h8⟩
    unfold PnV
    rw [if_pos (decide_eq_true hc)]
    exact ⟨v, rfl, h1, h2, h3, h4, h5, by rw [h7]; rfl, h6, Nat.le_refl _, h8⟩
  · rw [if_neg hc] at h
    refine ⟨_, h.1, ?_, h.2⟩
    unfold PnV
    rw [if_neg (by rw [decide_eq_false hc]; decide)]
/-- The program's memory beside the reference's. -/
structure RunAt (w0 w : World) (B C : Nat) (v : HV) (r : RV) (gr : Nat) (up : List Nat) (room : Int) (q : Nat → Int) (L1 : List Hp.It) (cn1 : Nat → Int) (L2 : List Hp.It) (cn2 : Nat → Int) : Prop where
  hh : HAt w0 w B C v up room q L1 cn1
  rr : RHAt w r up room q L2 cn2
  b : Blk w gr 53 (rvC r)
  far : ∀ k, RFp r k → ¬ HOwns v k
  ngr : ∀ k, RFp r k → k ≠ gr
  u : ∀ ad, r.U = some ad → ad.block < w0.heap.size
  low : w0.heap.size ≤ gr
  vu : ∀ ad, v.U = some ad → ad.block ≠ gr
section
variable {w0 w w' : World} {B C C' : Nat} {v v' : HV} {r r' : RV} {gr : Nat} {up : List Nat} {room : Int} {q : Nat → Int} {L1 L1' L2 L2' : List Hp.It} {cn1 cn1' cn2 cn2' : Nat → Int}
theorem RunAt.more (h : RunAt w0 w B C v r gr up room q L1 cn1 L2 cn2) (hg : Grew w w') : RunAt w0 w' B C v r gr up room q L1 cn1 L2 cn2 :=
  ⟨h.hh.more hg, h.rr.grew hg, h.b.grew hg, h.far, h.ngr, h.u, h.low, h.vu⟩
theorem RunAt.ngr' (h : RunAt w0 w B C v r gr up room q L1 cn1 L2 cn2) : ¬ HOwns v gr := h.hh.mem.alien h.b (by decide) (by decide) (by decide) (by decide)
theorem RunAt.step (h : RunAt w0 w B C v r gr up room q L1 cn1 L2 cn2) (hs : Step w B v v' w') (hn : HAt w0 w' B C' v' up room q L1' cn1') : RunAt w0 w' B C' v' r gr up room q L1' cn1' L2 cn2 := by
  refine ⟨hn, h.rr.kept hs.kept (fun ad e hk => ?_) h.far, h.b.kept hs.kept h.ngr', fun k hk ho => ?_, h.ngr, h.u, h.low, fun ad e => h.vu ad (by rw [← hs.U]; exact e)⟩
  · have h1 := h.u ad e
    have h2 := (h.hh.mem.owns hk).1
    have h3 := h.hh.low
    omega
  · rcases hs.owns k ho with h1 | h1
    · exact h.far k hk h1
    · have := h.rr.fp_lt hk
      omega
/-- The reference's new value, stored. -/
theorem RunAt.ref (h : RunAt w0 w B C v r gr up room q L1 cn1 L2 cn2) {w2 : World} (hg : Grew w w') (hr : RHAt w' r' up room q L2' cn2') (hU : r'.U = r.U) (hfp : ∀ k, RFp r' k → RFp r k ∨ w.heap.size ≤ k ∨ k < w0.heap.size) (hk : Kept (fun k => k = gr) w' w2) (hb : Blk w2 gr 53 (rvC r')) : RunAt w0 w2 B C v r' gr up room q L1 cn1 L2' cn2' := by
  have hgr : ∀ k, RFp r' k → k ≠ gr := fun k hk e => by
    rcases hfp k hk with h1 | h1 | h1
    · exact h.ngr k h1 e
    · have := h.b.lt
      omega
    · have := h.low
      omega
  have hm := h.hh.more hg
  refine ⟨⟨hm.mem.kept hk (fun k e => by rw [e]; exact h.ngr') (fun ad e => h.vu ad e), hm.ok, hm.up, hm.room, hm.q, hm.its, hm.cn, hm.low, hk.grew hm.gr (fun k e => by rw [e]; exact h.low)⟩, hr.kept hk (fun ad e hx => ?_) hgr, hb, fun k hk ho => ?_, hgr, fun ad e => h.u ad (by rw [← hU]; exact e), h.low, h.vu⟩
  · have h1 := h.u ad (by rw [← hU]; exact e)
    have h2 := h.low
    have h3 : ad.block = gr := hx
    omega
  · rcases hfp k hk with h1 | h1 | h1
    · exact h.far k h1 ho
    · have := (h.hh.mem.owns ho).2
      omega
    · have h2 := (h.hh.mem.owns ho).1
      have h3 := h.hh.low
      omega
theorem RunAt.new {w2 : World} (hH : HAt w0 w B C v up room q L1 cn1) (hr : RHAt w' r up room q L2 cn2) (hg : Grew w w') (hu : ∀ ad, r.U = some ad → ad.block < w0.heap.size) (hfp : ∀ k, RFp r k → w.heap.size ≤ k) (hg2 : Grew w' w2) (hl : w'.heap.size ≤ gr) (hb : Blk w2 gr 53 (rvC r)) : RunAt w0 w2 B C v r gr up room q L1 cn1 L2 cn2 := by
  have h0 : w0.heap.size ≤ w.heap.size := hH.gr.below.size
  have h1 : w.heap.size ≤ w'.heap.size := hg.below.size
  refine ⟨hH.more (hg.trans hg2), hr.grew hg2, hb, fun k hk ho => ?_, fun k hk e => ?_, hu, by omega, fun ad e => ?_⟩
  · have h2 := (hH.mem.owns ho).2
    have h3 := hfp k hk
    omega
  · have h2 := hr.fp_lt hk
    omega
  · have h2 := hH.mem.upLt ad e
    omega
theorem RunAt.lok (h : RunAt w0 w B C v r gr up room q L1 cn1 L1 cn1) (hC : C ≤ 1000) : LOk up.length L1 room q cn1 C := h.hh.lok hC
end
theorem sumIf_zero : ∀ {L : List Hp.It} {p : Hp.It → Bool}, (∀ x ∈ L, p x = false) → Hp.sumIf p L = 0
  | [], _, _ => rfl
  | x :: r, p, h => by
    rw [Hp.sumIf, h x (List.mem_cons_self ..), sumIf_zero (fun y hy => h y (List.mem_cons_of_mem _ hy))]
    rfl
theorem addL_len {n : Nat} {L : List Hp.It} {room : Int} {q cn : Nat → Int} {o : Ob.Obj} {C : Nat} (h : LOk n L room q cn C) : (addL n L room q cn o).length ≤ L.length + 1 := by
  unfold addL
  split
  · rw [Hp.len_ins _ _ (fun y hy => by have := Hp.least_free h.sorted (fun x hx => (h.range x hx).1) y hy; exact this)]
    exact Nat.le_refl _
  · omega
theorem rv_five (r : RV) : ∃ c0 c1 c2 c3 c4 : Value, rvC r = #[c0, c1, c2, c3, c4] := ⟨_, _, _, _, _, rfl⟩
/-- What Get answers. -/
theorem HAt.getR {w0 w : World} {B C : Nat} {v : HV} {up : List Nat} {room : Int} {q : Nat → Int} {L : List Hp.It} {cn : Nat → Int} (h : HAt w0 w B C v up room q L cn) (i : Int) : Calls Tryz.prog 5 #[.pointer (some ⟨v.g, 0, none⟩), .int .i64 i] w fun e w' => (∃ (k l : Int) (A' : Option Addr) (n c : Nat) (b : ByteArray), e = .returned (.tuple #[.agg #[.int .i64 k, .int .i64 l, .slice A' n c, .string b], errVal (if (Hp.find L i).isSome then 0 else 3)]) ∧ (∀ x, Hp.find L i = some x → k = x.o.cls ∧ l = x.o.lev ∧ n = x.o.f.length ∧ b = x.o.b ∧ ValsAt w' A' x.o.f)) ∧ Grew w w' := by
  cases hf : Hp.find L i with
  | none =>
    refine (hGet_no v B i w h.mem h.ok.len (h.find_no hf)).mono ?_
    rintro e w' ⟨rfl, hg⟩
    exact ⟨⟨0, 0, none, 0, 0, _, rfl, fun x hx => by cases hx⟩, hg⟩
  | some x =>
    obtain ⟨hx, hi⟩ := Hp.find_mem hf
    have hr := h.range x hx
    obtain ⟨y, hy, -, hyo⟩ := h.find_at hx (i := i.toNat) (by omega)
    have hG := hGet_yes v B C i.toNat y w h.mem h.ok hy
    rw [Int.toNat_of_nonneg (by omega), hyo] at hG
    have hvs := (row_vals_at h.mem h.ok hy).1
    rw [hyo] at hvs
    refine hG.mono ?_
    rintro e w' ⟨A', c', rfl, hr2, hg⟩
    exact ⟨⟨_, _, A', _, c', _, rfl, fun z hz => by cases hz; exact ⟨rfl, rfl, rfl, rfl, row_vals hr2 rfl hvs⟩⟩, hg⟩
def hvH (L : List Hp.It) (i : Int) : Int := ((Hp.find L i).map (·.h)).getD 0
theorem HAt.hashR {w0 w : World} {B C : Nat} {v : HV} {up : List Nat} {room : Int} {q : Nat → Int} {L : List Hp.It} {cn : Nat → Int} (h : HAt w0 w B C v up room q L cn) (i : Int) : Calls Tryz.prog 6 #[.pointer (some ⟨v.g, 0, none⟩), .int .i64 i] w fun e w' => e = .returned (.tuple #[.int .i64 (hvH L i), errVal (if (Hp.find L i).isSome then 0 else 3)]) ∧ Grew w w' := by
  unfold hvH
  cases hf : Hp.find L i with
  | none =>
    exact hHash_no v B i w h.mem h.ok.len (h.find_no hf)
  | some x =>
    obtain ⟨hx, hi⟩ := Hp.find_mem hf
    have hr := h.range x hx
    obtain ⟨y, hy, hyh, -⟩ := h.find_at hx (i := i.toNat) (by omega)
    have hG := hHash_yes v B i.toNat y w h.mem h.ok.len hy
    rw [Int.toNat_of_nonneg (by omega), hyh] at hG
    exact hG
theorem HAt.usedR {w0 w : World} {B C : Nat} {v : HV} {up : List Nat} {room : Int} {q : Nat → Int} {L : List Hp.It} {cn : Nat → Int} (h : HAt w0 w B C v up room q L cn) (u : Int) (hu : 0 ≤ u) : Calls Tryz.prog 11 #[.pointer (some ⟨v.g, 0, none⟩), .int .i64 u] w fun e w' => e = .returned (.int .i64 ((rused L u : Nat) : Int)) ∧ Grew w w' := by
  have h1 := hUsed_c v B u w h.mem h.ok.lens.2
  have e : usedI v u = ((rused L u : Nat) : Int) := by
    rw [rused_nat L hu]
    unfold usedI Ob.inB
    by_cases hl : u < ((v.up.length : Nat) : Int)
    · rw [decide_eq_true hu, decide_eq_true hl, if_pos (by rfl), h.ok.us, h.its, Int.toNat_of_nonneg hu]
    · rw [decide_eq_true hu, decide_eq_false hl, if_neg (by decide)]
      unfold Hp.used
      rw [sumIf_zero (fun x hx => ?_)]
      · rfl
      · rw [← h.its] at hx
        have h2 := hp_head (h.ok.ok x hx)
        unfold Hp.lvl
        rw [decide_eq_false (by omega)]
  rw [e] at h1
  exact h1
end Go.Proofs.YtidnaednldcdfaaGreatDoor

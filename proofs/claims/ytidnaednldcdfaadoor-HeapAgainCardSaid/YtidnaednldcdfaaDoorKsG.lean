/- Parts of elder texts that this layer needs, joined: XHsG XHsH. -/
import Derived.Test.YtidnaednldcdfaaDoorKsC
namespace Go.Proofs.YtidnaednldcdfaaDoor
open Go.RowKit

theorem itemsB_of {n : Nat} {cs : List Int} : ∀ {L : List Hp.It} {b : Int}, Hp.Sorted L → (∀ x ∈ L, b ≤ x.i ∧ x.i < 65536 ∧ Ob.mayB n x.o = true ∧ Ob.inB x.h (cs.getD x.o.lev.toNat 0) = true) → itemsB n cs b L = true
  | [], _, _, _ => rfl
  | x :: r, b, hs, h => by
    obtain ⟨h1, h2, h3, h4⟩ := h x (List.mem_cons_self ..)
    have hs' := List.pairwise_cons.1 hs
    rw [itemsB, itemB, decide_eq_true h1, decide_eq_true h2, h3, h4]
    exact itemsB_of hs'.2 (fun y hy => ⟨by have := hs'.1 y hy; omega, (h y (List.mem_cons_of_mem _ hy)).2⟩)
theorem cf_cntL {n : Nat} {cn : Nat → Int} {j : Nat} (hj : j < n) : cf (cntL n cn) j = cn j := by
  unfold cf cntL
  rw [List.getD_eq_getElem?_getD, List.getElem?_map, List.getElem?_range hj]
  rfl
/-- All of a memory may be loaded. -/
theorem HAt.loadCode {w0 w : World} {B C : Nat} {v : HV} {up : List Nat} {room : Int} {quota : List Int} {L : List Hp.It} {cn : Nat → Int} (h : HAt w0 w B C v up room (qf room quota) L cn) (hh : HashOk L cn) (hC : C ≤ 60) (hn : newCode up room quota = 0) : loadCode up room quota L (cntL up.length cn) = 0 := by
  have hmay : ∀ x ∈ L, Ob.mayB up.length x.o = true := fun x hx => by
    rw [← h.its] at hx
    rw [← h.up]
    exact h.ok.ok x hx
  have h1 : cntsB up.length (cntL up.length cn) = true := by
    unfold cntsB
    rw [Bool.and_eq_true, decide_eq_true_eq]
    refine ⟨by simp [cntL], List.all_eq_true.2 (fun c hc => ?_)⟩
    obtain ⟨j, _, rfl⟩ := List.mem_map.1 hc
    have := h.ok.cn j
    rw [h.cn] at this
    unfold cntB
    rw [decide_eq_true this.1, decide_eq_true (by omega)]
    rfl
  have h2 : itemsB up.length (cntL up.length cn) 0 L = true := itemsB_of h.sorted (fun x hx => by
    obtain ⟨r1, r2⟩ := h.range x hx
    have hm := hp_head (hmay x hx)
    have hx2 := hh.1 x hx
    refine ⟨r1, r2, hmay x hx, ?_⟩
    have e : (cntL up.length cn).getD x.o.lev.toNat 0 = cn x.o.lev.toNat := cf_cntL (by omega)
    rw [e, Ob.inB, decide_eq_true hx2.1, decide_eq_true hx2.2]
    rfl)
  have h3 : fitsAll up.length L room (qf room quota) = true := fitsAll_spec.2 ⟨by have := h.ok.fitAll; rwa [h.its, h.room] at this, fun j hj => by have := h.ok.fit j (by rw [h.up]; exact hj); rwa [h.its, h.q] at this⟩
  unfold Go.Proofs.YtidnaednldcdfaaDoor.loadCode
  rw [if_pos hn, h1, h2, h3]
  rfl
/-- Two memories, apart from each other. -/
structure TwoAt (w0 w : World) (B C1 C2 : Nat) (v1 v2 : HV) (up : List Nat) (room : Int) (q : Nat → Int) (L1 L2 : List Hp.It) (cn1 cn2 : Nat → Int) : Prop where
  a : HAt w0 w B C1 v1 up room q L1 cn1
  b : HAt w0 w B C2 v2 up room q L2 cn2
  dis : ∀ k, HOwns v1 k → ¬ HOwns v2 k
  u1 : ∀ ad, v1.U = some ad → ¬ HOwns v2 ad.block
  u2 : ∀ ad, v2.U = some ad → ¬ HOwns v1 ad.block
theorem TwoAt.more {w0 w w' : World} {B C1 C2 : Nat} {v1 v2 : HV} {up : List Nat} {room : Int} {q : Nat → Int} {L1 L2 : List Hp.It} {cn1 cn2 : Nat → Int} (h : TwoAt w0 w B C1 C2 v1 v2 up room q L1 L2 cn1 cn2) (hg : Grew w w') : TwoAt w0 w' B C1 C2 v1 v2 up room q L1 L2 cn1 cn2 :=
  ⟨h.a.more hg, h.b.more hg, h.dis, h.u1, h.u2⟩
theorem TwoAt.swap {w0 w : World} {B C1 C2 : Nat} {v1 v2 : HV} {up : List Nat} {room : Int} {q : Nat → Int} {L1 L2 : List Hp.It} {cn1 cn2 : Nat → Int} (h : TwoAt w0 w B C1 C2 v1 v2 up room q L1 L2 cn1 cn2) : TwoAt w0 w B C2 C1 v2 v1 up room q L2 L1 cn2 cn1 :=
  ⟨h.b, h.a, fun k h1 h2 => h.dis k h2 h1, h.u2, h.u1⟩
theorem TwoAt.step1 {w0 w w' : World} {B C1 C1' C2 : Nat} {v1 v1' v2 : HV} {up : List Nat} {room : Int} {q : Nat → Int} {L1 L1' L2 : List Hp.It} {cn1 cn1' cn2 : Nat → Int} (h : TwoAt w0 w B C1 C2 v1 v2 up room q L1 L2 cn1 cn2) (hs : Step w B v1 v1' w') (hn : HAt w0 w' B C1' v1' up room q L1' cn1') : TwoAt w0 w' B C1' C2 v1' v2 up room q L1' L2 cn1' cn2 := by
  refine ⟨hn, ⟨h.b.mem.kept hs.kept (fun k h1 h2 => h.dis k h1 h2) (fun ad e hk => h.u2 ad e hk), h.b.ok, h.b.up, h.b.room, h.b.q, h.b.its, h.b.cn, h.b.low, hs.kept.grew h.b.gr (fun k hk1 => Nat.le_trans h.b.low (h.a.mem.owns hk1).1)⟩, fun k h1 h2 => ?_, fun ad e => h.u1 ad (by rw [← hs.U]; exact e), fun ad e hk => ?_⟩
  · rcases hs.owns k h1 with h3 | h3
    · exact h.dis k h3 h2
    · have := (h.b.mem.owns h2).2; omega
  · rcases hs.owns _ hk with h3 | h3
    · exact h.u2 ad e h3
    · have := h.b.mem.upLt ad e; omega
def addC (n : Nat) (L : List Hp.It) (room : Int) (q : Nat → Int) (o : Ob.Obj) : Nat := Hp.addCode n L room q o
theorem TwoAt.add1 {w0 w w' : World} {B C1 C2 : Nat} {v1 v2 : HV} {up : List Nat} {room : Int} {q : Nat → Int} {L1 L2 : List Hp.It} {cn1 cn2 : Nat → Int} (h : TwoAt w0 w B C1 C2 v1 v2 up room q L1 L2 cn1 cn2) {o : Ob.Obj} {e : Ending} (hp : AddV w B v1 C1 o e w') :
    ∃ v1', e = .returned (.tuple #[.int .i64 (if Hp.addCode up.length L1 room q o = 0 then ((Hp.least L1 : Nat) : Int) else 0), errVal (Hp.addCode up.length L1 room q o)]) ∧ v1'.g = v1.g ∧ TwoAt w0 w' B (C1 + 1) C2 v1' v2 up room q (addL up.length L1 room q cn1 o) L2 (addN up.length L1 room q cn1 o) cn2 := by
  obtain ⟨v', he, hg, hs, hh⟩ := h.a.add hp
  exact ⟨v', he, hg, h.step1 hs hh⟩
theorem TwoAt.collect1 {w0 w w' : World} {B C1 C2 : Nat} {v1 v2 : HV} {up : List Nat} {room : Int} {q : Nat → Int} {L1 L2 : List Hp.It} {cn1 cn2 : Nat → Int} (h : TwoAt w0 w B C1 C2 v1 v2 up room q L1 L2 cn1 cn2) {rs : List Ob.Val} {e : Ending} (hp : CollectV w B v1 C1 rs e w') :
    ∃ v1', e = .returned (.int .i64 ((L1.length : Int) - ((Hp.kept L1 rs).length : Int))) ∧ v1'.g = v1.g ∧ TwoAt w0 w' B C1 C2 v1' v2 up room q (Hp.kept L1 rs) L2 cn1 cn2 := by
  obtain ⟨v', he, hg, hs, hh⟩ := h.a.collect hp
  exact ⟨v', he, hg, h.step1 hs hh⟩
/-- Counts that agree give the same. -/
theorem addL_eq {n : Nat} {L : List Hp.It} {room : Int} {q cn1 cn2 : Nat → Int} (hc : ∀ j, j < n → cn1 j = cn2 j) (o : Ob.Obj) : addL n L room q cn1 o = addL n L room q cn2 o := by
  unfold addL
  split
  · rename_i h
    have hm : Ob.mayB n o = true := by
      unfold Hp.addCode at h
      cases hm : Ob.mayB n o
      · rw [hm, if_pos rfl] at h; cases h
      · rfl
    have hh := hp_head hm
    unfold Hp.newIt
    rw [hc o.lev.toNat (by omega)]
  · rfl
theorem addN_eq {n : Nat} {L : List Hp.It} {room : Int} {q cn1 cn2 : Nat → Int} (hc : ∀ j, j < n → cn1 j = cn2 j) (o : Ob.Obj) : ∀ j, j < n → addN n L room q cn1 o j = addN n L room q cn2 o j := fun j hj => by
  unfold addN
  split
  · unfold upd
    by_cases e : j = o.lev.toNat
    · subst e
      rw [if_pos rfl, if_pos rfl, hc _ hj]
    · rw [if_neg e, if_neg e, hc j hj]
  · exact hc j hj
/-- What Hash answers. -/
def hvH (L : List Hp.It) (i : Int) : Int := ((Hp.find L i).map (·.h)).getD 0
def hcH (L : List Hp.It) (i : Int) : Nat := if (Hp.find L i).isSome then 0 else 3
theorem HAt.hash {w0 w : World} {B C : Nat} {v : HV} {up : List Nat} {room : Int} {q : Nat → Int} {L : List Hp.It} {cn : Nat → Int} (h : HAt w0 w B C v up room q L cn) (i : Int) : Calls Tryd.prog 27 #[.pointer (some ⟨v.g, 0, none⟩), .int .i64 i] w fun e w' => e = .returned (.tuple #[.int .i64 (hvH L i), errVal (hcH L i)]) ∧ Grew w w' := by
  unfold hvH hcH
  cases hf : Hp.find L i with
  | none =>
    exact hHash_no v B i w h.mem h.ok.len (h.find_no hf)
  | some x =>
    obtain ⟨hx, hi⟩ := Hp.find_mem hf
    have hr := h.range x hx
    obtain ⟨y, hy, hyh, -⟩ := h.find_at hx (i := i.toNat) (by omega)
    have hG := hHash_yes v B i.toNat y w h.mem h.ok.len hy
    rw [Int.toNat_of_nonneg (by omega), hyh] at hG
    exact hG
theorem add_found {n : Nat} {L : List Hp.It} {room : Int} {q cn : Nat → Int} {o : Ob.Obj} (h : Hp.addCode n L room q o = 0) (hs : Hp.Sorted L) (h0 : ∀ x ∈ L, 0 ≤ x.i) : hcH (addL n L room q cn o) ((Hp.least L : Nat) : Int) = 0 := by
  unfold addL hcH
  rw [if_pos h]
  have hm : Hp.newIt L cn o ∈ Hp.ins L (Hp.newIt L cn o) := (Hp.mem_ins _ _ _ (fun y hy => by have := Hp.least_free hs h0 y hy; exact this)).2 (.inl rfl)
  have hf := Hp.find_of (Hp.sorted_ins _ _ hs) hm
  rw [show (Hp.newIt L cn o).i = ((Hp.least L : Nat) : Int) from rfl] at hf
  rw [hf]
  rfl
theorem HAt.lenI {w0 w : World} {B C : Nat} {v : HV} {up : List Nat} {room : Int} {q : Nat → Int} {L : List Hp.It} {cn : Nat → Int} (h : HAt w0 w B C v up room q L cn) : Calls Tryd.prog 13 #[.pointer (some ⟨v.g, 0, none⟩)] w fun e w' => e = .returned (.int .i64 ((L.length : Nat) : Int)) ∧ Grew w w' := by
  have h1 := hLen_c v B w h.mem
  rwa [h.ok.n, h.its] at h1
/-- What the operations of Load's call give. -/
def LdF (w0 : World) (gs : Nat) (U : Option Addr) (cu : Nat) (up : List Nat) (room : Int) (Q : Option Addr) (cq : Nat) (quota : List Int) (lv cv : Value) (L : List Hp.It) (cs : List Int) (j : Nat) (v : Value) (w : World) : Prop := match j with
  | 0 => ∃ H, v = .slice (some ⟨H, 0, none⟩) 0 0 ∧ Blk w H 5 #[]
  | 1 => v = .pointer (some ⟨gs, 0, none⟩)
  | 2 => v = .slice U up.length cu
  | 3 => ∃ A' c', v = .slice A' up.length c' ∧ BytesAt w w.heap.size A' up
  | 4 => ∃ A' c', v = .agg #[.slice A' up.length c'] ∧ BytesAt w w.heap.size A' up
  | 5 => v = .pointer (some ⟨gs, 1, none⟩)
  | 6 => v = .int .i64 room
  | 7 => ∃ H, v = .slice (some ⟨H, 0, none⟩) 0 0 ∧ Blk w H 3 #[]
  | 8 => v = .pointer (some ⟨gs, 2, none⟩)
  | 9 => v = .slice Q quota.length cq
  | 10 => ∃ A' c', v = .slice A' quota.length c' ∧ IntsAt w A' quota
  | 11 => v = lv
  | 12 => v = cv
  | 13 => ∃ h, v = .tuple #[.pointer (some ⟨h.g, 0, none⟩), .nilIface] ∧ HAt w0 w w0.heap.size 2147483647 h up room (qf room quota) L (cf cs)
  | 14 => ∃ h, v = .tuple #[.pointer (some ⟨h.g, 0, none⟩), .nilIface] ∧ HAt w0 w w0.heap.size 2147483647 h up room (qf room quota) L (cf cs)
  | 15 => ∃ h, v = .pointer (some ⟨h.g, 0, none⟩) ∧ HAt w0 w w0.heap.size 2147483647 h up room (qf room quota) L (cf cs)
  | 16 => v = .nilIface
  | 17 => ∃ h, v = .pointer (some ⟨h.g, 0, none⟩) ∧ HAt w0 w w0.heap.size 2147483647 h up room (qf room quota) L (cf cs)
  | 18 => v = .nilIface
  | _ => True
theorem LdF.grew {w0 : World} {gs : Nat} {U : Option Addr} {cu : Nat} {up : List Nat} {room : Int} {Q : Option Addr} {cq : Nat} {quota : List Int} {lv cv : Value} {L : List Hp.It} {cs : List Int} (j : Nat) (v : Value) (w w' : World) (h : LdF w0 gs U cu up room Q cq quota lv cv L cs j v w) (hg : Grew w w') : LdF w0 gs U cu up room Q cq quota lv cv L cs j v w' := by
  unfold LdF at h ⊢
  split at h <;> first | exact h | skip
  · obtain ⟨H, h1, h2⟩ := h
    exact ⟨H, h1, h2.grew hg⟩
  · obtain ⟨A', c', h1, h2⟩ := h
    exact ⟨A', c', h1, h2.grew hg⟩
  · obtain ⟨A', c', h1, h2⟩ := h
    exact ⟨A', c', h1, h2.grew hg⟩
  · obtain ⟨H, h1, h2⟩ := h
    exact ⟨H, h1, h2.grew hg⟩
  · obtain ⟨A', c', h1, h2⟩ := h
    exact ⟨A', c', h1, h2.grew hg⟩
  all_goals
    obtain ⟨x, h1, h2⟩ := h
    exact ⟨x, h1, h2.more hg⟩
theorem hat_load {w w' : World} {up : List Nat} {room : Int} {quota : List Int} {L : List Hp.It} {cs : List Int} {e : Ending} (h : LoadV w up room quota L cs e w') (hc : loadCode up room quota L cs = 0) : ∃ v, e = .returned (.tuple #[.pointer (some ⟨v.g, 0, none⟩), .nilIface]) ∧ HAt w w' w.heap.size 2147483647 v up room (qf room quota) L (cf cs) := by
  unfold LoadV at h
  rw [if_pos hc] at h
  obtain ⟨v, he, h1, h2, h3, h4, h5, h6, h7, h8⟩ := h
  exact ⟨v, he, h1, h2, h3, h4, h5, h7, h6, Nat.le_refl _, h8⟩
/-- A memory that was loaded, beside the elder one. -/
theorem TwoAt.new {w0 w w' : World} {B C1 C2 : Nat} {v1 v2 : HV} {up : List Nat} {room : Int} {q : Nat → Int} {L1 L2 : List Hp.It} {cn1 cn2 : Nat → Int} (h : HAt w0 w B C1 v1 up room q L1 cn1) (h2 : HAt w w' w.heap.size C2 v2 up room q L2 cn2) : TwoAt w0 w' B C1 C2 v1 v2 up room q L1 L2 cn1 cn2 := by
  have hB : B ≤ w.heap.size := Nat.le_trans h.mem.low (Nat.le_of_lt h.mem.blk.lt)
  refine ⟨h.more h2.gr, ⟨h2.mem.base hB, h2.ok, h2.up, h2.room, h2.q, h2.its, h2.cn, h.low, h.gr.trans h2.gr⟩, fun k h3 h4 => ?_, fun ad e h3 => ?_, fun ad e h3 => ?_⟩
  · have h5 := (h.mem.owns h3).2
    have h6 := (h2.mem.owns h4).1
    omega
  · have h5 := h.mem.upLt ad e
    have h6 := (h2.mem.owns h3).1
    omega
  · have h5 := h2.mem.upLow ad e
    have h6 := (h.mem.owns h3).2
    omega
/-- What the operations of 'h.Collect(giveRoots(x.Roots)...) != g.Collect(giveRoots(x.Roots)...)' give. -/
def CcF (w0 : World) (sg ss gx : Nat) (rA : Option Addr) (rn rc : Nat) (rl : List LV) (d : Int) (j : Nat) (v : Value) (w : World) : Prop := match j with
  | 0 => v = .pointer (some ⟨sg, 0, none⟩)
  | 1 => v = .pointer (some ⟨gx, 11, none⟩)
  | 2 => v = .slice rA rn rc
  | 3 => ∃ (A' : Option Addr) (c' : Nat) (l' : List LV), v = .slice A' l'.length c' ∧ Row w w0.heap.size 40 1 A' l'.length c' (l'.flatMap lvF) ∧ l'.map (·.l) = rl.map (·.l) ∧ ∀ x ∈ l', Row w w0.heap.size 48 3 x.A x.l.length x.c (x.l.flatMap valF)
  | 4 => v = .int .i64 d
  | 5 => v = .pointer (some ⟨ss, 0, none⟩)
  | 6 => v = .pointer (some ⟨gx, 11, none⟩)
  | 7 => v = .slice rA rn rc
  | 8 => ∃ (A' : Option Addr) (c' : Nat) (l' : List LV), v = .slice A' l'.length c' ∧ Row w w0.heap.size 40 1 A' l'.length c' (l'.flatMap lvF) ∧ l'.map (·.l) = rl.map (·.l) ∧ ∀ x ∈ l', Row w w0.heap.size 48 3 x.A x.l.length x.c (x.l.flatMap valF)
  | 9 => v = .int .i64 d
  | 10 => v = .bool false
  | _ => True
theorem CcF.stable {w0 : World} {own : Nat → Prop} {sg ss gx : Nat} {rA : Option Addr} {rn rc : Nat} {rl : List LV} {d : Int} (hO : ∀ k, own k → k < w0.heap.size) (j : Nat) (v : Value) (w w' : World) (h : CcF w0 sg ss gx rA rn rc rl d j v w) (hr : Kept own w w') : CcF w0 sg ss gx rA rn rc rl d j v w' := by
  unfold CcF at h ⊢
  split at h <;> first | exact h | skip
  all_goals
    obtain ⟨A', c', l', h1, h2, h3, h4⟩ := h
    exact ⟨A', c', l', h1, h2.kept hr (fun g hg hk => by have h5 := Row.at_base h2 g ⟨_, hg, rfl⟩; have h6 := hO g hk; omega), h3, fun x hx => (h4 x hx).kept hr (fun g hg hk => by have h5 := Row.at_base (h4 x hx) g ⟨_, hg, rfl⟩; have h6 := hO g hk; omega)⟩
def CcJ (w00 : World) (B C1 C2 : Nat) (v1 v2 : HV) (up : List Nat) (room : Int) (q : Nat → Int) (L : List Hp.It) (cn1 cn2 : Nat → Int) (rs : List Ob.Val) (gx : Nat) (xc : Array Value) (f : Nat → Bool) (w : World) : Prop :=
  Blk w gx 67 xc ∧ ∃ a b, a.g = v1.g ∧ b.g = v2.g ∧ (f 4 = false → a = v1) ∧ (f 9 = false → b = v2) ∧ TwoAt w00 w B C1 C2 a b up room q (if f 4 then Hp.kept L rs else L) (if f 9 then Hp.kept L rs else L) cn1 cn2
theorem CcJ.grew {w00 w w' : World} {B C1 C2 : Nat} {v1 v2 : HV} {up : List Nat} {room : Int} {q : Nat → Int} {L : List Hp.It} {cn1 cn2 : Nat → Int} {rs : List Ob.Val} {gx : Nat} {xc : Array Value} {f : Nat → Bool} (h : CcJ w00 B C1 C2 v1 v2 up room q L cn1 cn2 rs gx xc f w) (hg : Grew w w') : CcJ w00 B C1 C2 v1 v2 up room q L cn1 cn2 rs gx xc f w' := by
  obtain ⟨h1, a, b, h2, h3, h4, h5, h6⟩ := h
  exact ⟨h1.grew hg, a, b, h2, h3, h4, h5, h6.more hg⟩
theorem CcJ.pure {w00 w : World} {B C1 C2 : Nat} {v1 v2 : HV} {up : List Nat} {room : Int} {q : Nat → Int} {L : List Hp.It} {cn1 cn2 : Nat → Int} {rs : List Ob.Val} {gx : Nat} {xc : Array Value} {f : Nat → Bool} (h : CcJ w00 B C1 C2 v1 v2 up room q L cn1 cn2 rs gx xc f w) (j : Nat) (h4' : 4 ≠ j) (h9' : 9 ≠ j) : CcJ w00 B C1 C2 v1 v2 up room q L cn1 cn2 rs gx xc (updF f j) w := by
  obtain ⟨h1, a, b, h2, h3, h4, h5, h6⟩ := h
  have e4 : updF f j 4 = f 4 := by unfold updF; rw [if_neg h4']
  have e9 : updF f j 9 = f 9 := by unfold updF; rw [if_neg h9']
  unfold CcJ
  rw [e4, e9]
  exact ⟨h1, a, b, h2, h3, h4, h5, h6⟩
theorem CcJ.c4 {w00 w w' : World} {B C1 C2 : Nat} {v1 v2 : HV} {up : List Nat} {room : Int} {q : Nat → Int} {L : List Hp.It} {cn1 cn2 : Nat → Int} {rs : List Ob.Val} {gx : Nat} {xc : Array Value} {f : Nat → Bool} {b : HV} (h1 : Blk w gx 67 xc) (h3 : b.g = v2.g) (h5 : f 9 = false → b = v2) (h6 : TwoAt w00 w B C1 C2 v1 b up room q (if f 4 then Hp.kept L rs else L) (if f 9 then Hp.kept L rs else L) cn1 cn2) (hf : f 4 = false) {e : Ending} (hp : CollectV w B v1 C1 rs e w') :
    e = .returned (.int .i64 ((L.length : Int) - ((Hp.kept L rs).length : Int))) ∧ CcJ w00 B C1 C2 v1 v2 up room q L cn1 cn2 rs gx xc (updF f 4) w' ∧ Kept (fun k => HOwns v1 k ∨ HOwns v2 k) w w' := by
  rw [hf, if_neg (c := false = true) (by decide)] at h6
  obtain ⟨a', he, hg, hh⟩ := h6.collect1 hp
  obtain ⟨_, _, hst, _⟩ := hp
  have e4 : updF f 4 4 = true := by unfold updF; rw [if_pos rfl]
  have e9 : updF f 4 9 = f 9 := by unfold updF; rw [if_neg (by decide)]
  refine ⟨he, ?_, hst.kept.mono (fun k _ hk => .inl hk)⟩
  unfold CcJ
  rw [e4, e9, if_pos (c := true = true) rfl]
  exact ⟨h1.kept hst.kept (h6.a.mem.alien h1 (by decide) (by decide) (by decide) (by decide)), a', b, hg, h3, (fun h => by cases h), h5, hh⟩
theorem CcJ.c9 {w00 w w' : World} {B C1 C2 : Nat} {v1 v2 : HV} {up : List Nat} {room : Int} {q : Nat → Int} {L : List Hp.It} {cn1 cn2 : Nat → Int} {rs : List Ob.Val} {gx : Nat} {xc : Array Value} {f : Nat → Bool} {a : HV} (h1 : Blk w gx 67 xc) (h2 : a.g = v1.g) (h4 : f 4 = false → a = v1) (h6 : TwoAt w00 w B C1 C2 a v2 up room q (if f 4 then Hp.kept L rs else L) (if f 9 then Hp.kept L rs else L) cn1 cn2) (hf : f 9 = false) {e : Ending} (hp : CollectV w B v2 C2 rs e w') :
    e = .returned (.int .i64 ((L.length : Int) - ((Hp.kept L rs).length : Int))) ∧ CcJ w00 B C1 C2 v1 v2 up room q L cn1 cn2 rs gx xc (updF f 9) w' ∧ Kept (fun k => HOwns v1 k ∨ HOwns v2 k) w w' := by
  rw [hf, if_neg (c := false = true) (by decide)] at h6
  obtain ⟨b', he, hg, hh⟩ := h6.swap.collect1 hp
  obtain ⟨_, _, hst, _⟩ := hp
  have e4 : updF f 9 4 = f 4 := by unfold updF; rw [if_neg (by decide)]
  have e9 : updF f 9 9 = true := by unfold updF; rw [if_pos rfl]
  refine ⟨he, ?_, hst.kept.mono (fun k _ hk => .inr hk)⟩
  unfold CcJ
  rw [e4, e9, if_pos (c := true = true) rfl]
  exact ⟨h1.kept hst.kept (h6.b.mem.alien h1 (by decide) (by decide) (by decide) (by decide)), a, b', h2, hg, h4, (fun h => by cases h), hh.swap⟩
end Go.Proofs.YtidnaednldcdfaaDoor
namespace Go.Proofs.YtidnaednldcdfaaDoor
open Go.RowKit

set_option maxRecDepth 100000 in
set_option maxHeartbeats 32000000 in
theorem again12_walk (U : Option Addr) (cu : Nat) (up : List Nat) (room : Int) (Q : Option Addr) (cq : Nat) (quota : List Int) (A : Option Addr) (ca : Nat) (l : List A12) (Am : Option Addr) (cm : Nat) (acts : List A12) (w : World) (hE : HandleAt w) (hU : BytesAt w w.heap.size U up) (hQ : IntsAt w Q quota) (hA : Acts12 w A l) (hM : Acts12 w Am acts) :
    Calls Tryd.prog 5 #[.agg #[.slice U up.length cu, .int .i64 room, .slice Q quota.length cq], .slice A l.length ca, .slice Am acts.length cm] w fun e w' => e = .returned (.bool true) ∧ Grew w w' := by
  have HE := hid hE
  have HU := hid hU
  have HQ := hid hQ
  have HAc := hid hM
  have HMa := hid (fun W (hW : Grew w W) => made_c U cu up room Q cq quota A ca l W (hU.grew hW) (hQ.grew hW) (hA.grew hW))
  have HSu := hid (fun W (hW : Grew w W) => sure_c W (hE.grew hW))
  have HNum := hid (fun (k : Nat) W (hW : Grew w W) => num_c k W (hE.grew hW))
  clear hE hU hQ hA hM
  obtain ⟨n, en⟩ : ∃ n, n = acts.length := ⟨_, rfl⟩
  rw [← en]
  have EN := hid en
  generalize l.length = ln at *
  clear en
  have B1 := Blk.new w 25 #[.slice U up.length cu, .int .i64 room, .slice Q quota.length cq]
  have G1 := (Grew.refl w).alloc (.cells #[.slice U up.length cu, .int .i64 room, .slice Q quota.length cq] 25)
  go_enter Tryd.func5, Tryd.ntmps5
  go_upto_region 1 with fail
  generalize w.alloc (.cells #[.slice U up.length cu, .int .i64 room, .slice Q quota.length cq] 25) = wb at *
  obtain ⟨gs, egs⟩ : ∃ gs, gs = w.heap.size := ⟨_, rfl⟩
  rw [← egs] at B1 ⊢
  have HG1 := hid G1
  have HB1 := hid B1
  have q0 := B1.cell 0
  have q1 := B1.cell 1
  have q2 := B1.cell 2
  have ql := B1.lt
  simp only [List.getElem?_toArray, List.getElem?_cons_zero, List.getElem?_cons_succ] at q0 q1 q2
  have hmade := HMa.out wb HG1.out
  clear B1 G1 HMa egs
  go_wp2_with fail
  refine hmade.mono ?_
  intro e w2 hpost
  clear q0 q1 q2 ql hmade
  rcases hpost with ⟨rfl, hg2⟩ | ⟨hnc, hu20, hq20, v, C, L, cn, rfl, hH, hHs, hC⟩
  · have HG2 := hid (HG1.out.trans hg2)
    clear hg2
    go_wp2_with (go_at_call 8; refine (HSu.out w2 HG2.out).mono ?_; rintro e w3 ⟨rfl, hg3⟩)
    go_ret
    exact ⟨rfl, HG2.out.trans hg3⟩
  · obtain ⟨B, eB⟩ : ∃ B, B = wb.heap.size := ⟨_, rfl⟩
    rw [← eB] at hH
    have HBw := hid (show w.heap.size ≤ B by rw [eB]; exact HG1.out.below.size)
    have HH := hid hH
    have HHs := hid hHs
    have HC := hid hC
    have HNC := hid hnc
    have HG2 := hid hH.gr
    have HB2 := hid (HB1.out.grew hH.gr)
    have HLC := hid (hH.loadCode hHs hC hnc)
    have HU8 := hid (show up.length ≤ 8 by rw [← hH.up]; exact hH.ok.lens.2)
    clear hnc hH hHs hC eB HB1
    obtain ⟨sg, esg⟩ : ∃ sg, sg = v.g := ⟨_, rfl⟩
    rw [← esg]
    have ESG := hid esg
    clear esg
    go_upto_region 4 with fail
    have hall := hAll_c v B C w2 HH.out.mem HH.out.ok
    rw [← ESG.out] at hall
    go_wp2_with fail
    refine hall.mono ?_
    rintro e w4 ⟨A1, c1, l1, A2, c2, rfl, hI1, hE1, hC1, hg4⟩
    have HE1 := hid (hE1.trans HH.out.its)
    rw [HH.out.up] at hC1
    rw [HH.out.cn] at hC1
    have HI1 := hid (hI1.at (n := up.length) (by have := HU8.out; omega) (fun x hx => by
      have h1 : (⟨x.i, x.h, x.o⟩ : Hp.It) ∈ its v.sl := by rw [← hE1]; exact List.mem_map.2 ⟨x, hx, rfl⟩
      have h2 := HH.out.ok.ok _ h1
      have h3 := HH.out.ok.hs _ h1
      rw [HH.out.its] at h1
      have h4 := HH.out.range _ h1
      rw [HH.out.up] at h2
      exact ⟨h2, ⟨by simp only at h4; omega, by simp only at h4; omega⟩, h3⟩))
    have HC1 := hid (show IntsAt w4 A2 (cntL up.length cn) from ints_row (by rw [show (cntL up.length cn).length = up.length by simp [cntL]]; exact hC1))
    have HH4 := hid (HH.out.more hg4)
    have HB4 := hid (HB2.out.grew hg4)
    have HL1 := hid (show l1.length ≤ 65536 by
      have h1 := HH.out.ok.small
      rw [HH.out.its, ← HE1.out] at h1
      simpa [ivI] using h1)
    rw [HH.out.up]
    clear hall hI1 hE1 hC1 hg4 HH HB2 HG2
    have HGw4 := hid (HG1.out.trans HH4.out.gr)
    have HUp := hid (fun W (hW : Grew w4 W) => HU.out.grew (HGw4.out.trans hW))
    have HQu := hid (fun W (hW : Grew w4 W) => HQ.out.grew (HGw4.out.trans hW))
    obtain ⟨A1v, eA1⟩ : ∃ A1v : Value, A1v = .slice A1 l1.length c1 := ⟨_, rfl⟩
    obtain ⟨A2v, eA2⟩ : ∃ A2v : Value, A2v = .slice A2 up.length c2 := ⟨_, rfl⟩
    have HLd := hid (fun A3 c3 A4 c4 W (h1 : BytesAt W W.heap.size A3 up) (h2 : IntsAt W A4 quota) (hW : Grew w4 W) => hLoad_c A3 c3 up room A4 c4 quota A1 c1 l1 A2 c2 (cntL up.length cn) W hu20 h1 h2 (by omega) (HI1.out.grew hW) HL1.out (HC1.out.grew hW) (by simp [cntL]; omega))
    rw [show (cntL up.length cn).length = up.length by simp [cntL], HE1.out, ← eA1, ← eA2] at HLd
    rw [← eA1, ← eA2]
    clear eA1 eA2
    go_upto_region 5 with fail
    refine wp_region_facts4 (w0 := w4) w4 19 19 [34, 35, 36, 37, 38, 39, 40, 41, 42, 43, 44, 45, 46, 47, 33, 48, 49, 10, 11] [] (LdF w4 gs U cu up room Q cq quota A1v A2v L (cntL up.length cn)) (Kept (fun _ => False)) (fun _ => Kept (fun _ => False)) (fun _ _ => True) (May.kept _) (fun _ _ _ h => h) (fun _ w => Kept.refl _ w) (by kernel_rfl) (by kernel_rfl) (Kept.refl _ _).drew trivial (fun a _ v w w' _ _ _ _ h hr => LdF.grew a v w w' h (Kept.grew hr (Grew.refl _) (fun _ h => h.elim))) ?_ ?_
    · repeat' (first | exact trivial | apply And.intro)
      all_goals
        intro a w' fl hgk hJ hfi hdep hs hA
        have t3 := hs.eval 3 (by decide) (v := .pointer (some ⟨gs, 0, none⟩)) rfl
        have t8 := hs.eval 8 (by decide) (v := A1v) rfl
        have t9 := hs.eval 9 (by decide) (v := A2v) rfl
        have hgw : Grew w4 w' := Kept.grew hgk (Grew.refl _) (fun _ h => h.elim)
        have HGW := hid hgw
        have HBw := hid (HB4.out.grew hgw)
        clear hs hgk hJ hfi hdep hgw
        simp only [Ahead, Region.binds, slotOf, LdF, List.getD_cons_succ, List.getD_cons_zero, forall_const, gcOff, Bool.false_eq_true, false_implies, and_true] at hA
        simp only [wantedD, if_true]
        unfold Oper.wp
        have ec : ∀ v, a.eval (.const v) = v := fun _ => rfl
        generalize hfe : a.eval = fe at *
        have ef : ∀ k, fe (.func k) = Act.eval ⟨#[], []⟩ (.func k) := fun k => by rw [← hfe]; rfl
        clear hfe
      · have hbn := Blk.new w' 5 #[]
        have hgn := (Grew.refl w').alloc (.cells #[] 5)
        have HBn := hid hbn
        have HGn := hid hgn
        clear hbn hgn
        go_simp
        exact Gives3.of rfl (Kept.of_grew HGn.out) ⟨w'.heap.size, rfl, HBn.out⟩ trivial
      · go_simp
        exact Gives3.of rfl (Kept.refl _ _) rfl trivial
      · have x0 := HBw.out.cell 0
        have xl := HBw.out.lt
        simp only [List.getElem?_toArray, List.getElem?_cons_zero] at x0
        go_simp
        exact Gives3.of rfl (Kept.refl _ _) rfl trivial
      · obtain ⟨⟨H, hv1, hbn⟩, hv2⟩ := hA
        have hb0 := HUp.out w' HGW.out
        obtain ⟨A3, c3, w2', hrun, r1, r2⟩ := run_catZ (P := Tryd.prog) 22 22 5 (.int .u8 0) 1 Tryd.underlying22 u8_info rfl w' H hbn U up.length cu (numCells .u8 up) (numCells_length _ _) (numCells_one _ _) (bytes_none hb0) (bytes_cells hb0) (by omega) (by omega)
        have HR1 := hid (bytes_row hb0.1 r1)
        have HR2 := hid r2
        clear hbn hb0 r1 r2
        simp only [execOp, resolve, invoke, builtin, Sem.run_bind, Sem.run_pure, Result.andThen_ok, List.map_toArray, List.map_cons, List.map_nil, hv1, hv2, hrun, Oper.upon]
        refine Gives3.of rfl ?_ ?_ ?_
        · exact Kept.of_grew HR2.out
        · exact ⟨A3, c3, rfl, HR1.out⟩
        · exact trivial
      · obtain ⟨A', c', hv, hb⟩ := hA
        have HB3 := hid hb
        clear hb
        go_simp
        exact Gives3.of rfl (Kept.refl _ _) ⟨A', c', rfl, HB3.out⟩ trivial
      · go_simp
        exact Gives3.of rfl (Kept.refl _ _) rfl trivial
      · have x0 := HBw.out.cell 1
        have xl := HBw.out.lt
        simp only [List.getElem?_toArray, List.getElem?_cons_zero, List.getElem?_cons_succ] at x0
        go_simp
        exact Gives3.of rfl (Kept.refl _ _) rfl trivial
      · have hbn := Blk.new w' 3 #[]
        have hgn := (Grew.refl w').alloc (.cells #[] 3)
        have HBn := hid hbn
        have HGn := hid hgn
        clear hbn hgn
        go_simp
        exact Gives3.of rfl (Kept.of_grew HGn.out) ⟨w'.heap.size, rfl, HBn.out⟩ trivial
      · go_simp
        exact Gives3.of rfl (Kept.refl _ _) rfl trivial
      · have x0 := HBw.out.cell 2
        have xl := HBw.out.lt
        simp only [List.getElem?_toArray, List.getElem?_cons_zero, List.getElem?_cons_succ] at x0
        go_simp
        exact Gives3.of rfl (Kept.refl _ _) rfl trivial
      · obtain ⟨⟨H, hv1, hbn⟩, hv2⟩ := hA
        have hb0 := HQu.out w' HGW.out
        obtain ⟨A3, c3, w2', hrun, r1, r2⟩ := run_catZ (P := Tryd.prog) 23 23 3 (.int .i64 0) 8 Tryd.underlying23 i64_info rfl w' H hbn Q quota.length cq (quota.flatMap intF) (by rw [flatMap_length intF_len, Nat.mul_one]) (ints_one quota) (ints_none hb0) (ints_cells hb0) (by omega) (by omega)
        have HR1 := hid (ints_row r1)
        have HR2 := hid r2
        clear hbn hb0 r1 r2
        simp only [execOp, resolve, invoke, builtin, Sem.run_bind, Sem.run_pure, Result.andThen_ok, List.map_toArray, List.map_cons, List.map_nil, hv1, hv2, hrun, Oper.upon]
        refine Gives3.of rfl ?_ ?_ ?_
        · exact Kept.of_grew HR2.out
        · exact ⟨A3, c3, rfl, HR1.out⟩
        · exact trivial
      · go_simp
        exact Gives3.of rfl (Kept.refl _ _) rfl trivial
      · go_simp
        exact Gives3.of rfl (Kept.refl _ _) rfl trivial
      · obtain ⟨⟨A3, c3, hv1, hb⟩, hv2, ⟨A4, c4, hv3, hq⟩, hv4, hv5, _⟩ := hA
        have HB3 := hid hb
        have HQ4 := hid hq
        clear hb hq
        go_simp
        refine (HLd.out A3 c3 A4 c4 w' HB3.out HQ4.out HGW.out).mono ?_
        intro e wz hp
        obtain ⟨x, rfl, hx⟩ := hat_load hp HLC.out
        exact Gives3.of rfl (Kept.of_grew hx.gr) ⟨x, rfl, hx.from HGW.out⟩ trivial
      · obtain ⟨x, hv, hs⟩ := hA
        have HSs := hid hs
        clear hs
        go_simp
        exact Gives3.of rfl (Kept.refl _ _) ⟨x, rfl, HSs.out⟩ trivial
      · obtain ⟨x, hv, hs⟩ := hA
        have HSs := hid hs
        clear hs
        go_simp
        exact Gives3.of rfl (Kept.refl _ _) ⟨x, rfl, HSs.out⟩ trivial
      · obtain ⟨x, hv, hs⟩ := hA
        clear hs
        go_simp
        exact Gives3.of rfl (Kept.refl _ _) rfl trivial
      · obtain ⟨x, hv, hs⟩ := hA.1
        have HSs := hid hs
        clear hs
        go_simp
        exact Gives3.of rfl (Kept.refl _ _) ⟨x, rfl, HSs.out⟩ trivial
      · have hv := hA.1
        go_simp
        exact Gives3.of rfl (Kept.refl _ _) rfl trivial
    · intro a2 wn hgk hs hf _ _
      have hgw : Grew w4 wn := Kept.grew hgk (Grew.refl _) (fun _ h => h.elim)
      have h17 := hf 17 (by decide)
      have h18 := hf 18 (by decide)
      simp only [slotOf, LdF, List.getD_cons_succ, List.getD_cons_zero] at h17 h18
      obtain ⟨fn, rfl, hft⟩ := hs.put
      rw [hft] at h17 h18
      obtain ⟨g0, h17, hG⟩ := h17
      have HT := hid (TwoAt.new HH4.out hG)
      have HCn := hid (fun j (hj : j < up.length) => (cf_cntL (cn := cn) hj).symm)
      clear hf hft hs hgk hG
      simp only [List.drop_succ_cons, List.drop_zero, putAll, List.foldl_cons, List.foldl_nil, Act.put, List.setIfInBounds_toArray, List.set_cons_succ, List.set_cons_zero, h17, h18]
      clear h17 h18 HUp HQu HLd HI1 HC1 HH4 HB4 HE1 HL1 HLC
      obtain ⟨ss, ess⟩ : ∃ ss, ss = g0.g := ⟨_, rfl⟩
      rw [← ess]
      have ESS := hid ess
      clear ess hgw
      go_upto_region 9 with fail
      go_loopw [12] (fun s12 wr => ∃ (i : Nat) (v1 v2 : HV) (C1 C2 : Nat) (L : List Hp.It) (cn1 cn2 : Nat → Int), s12 = .int .i64 ((i : Nat) : Int) ∧ i ≤ n ∧ i ≤ 40 ∧ Hid (TwoAt wb wr B C1 C2 v1 v2 up room (qf room quota) L L cn1 cn2) ∧ Hid (∀ j, j < up.length → cn1 j = cn2 j) ∧ Hid (C1 ≤ 60 + i ∧ C2 ≤ 2147483647 + i) ∧ Hid (v1.g = sg) ∧ Hid (v2.g = ss)) (fun s12 _ => 40 - (intOf s12).toNat)
      case atStart => exact ⟨0, v, g0, C, 2147483647, L, cn, _, rfl, Nat.zero_le _, Nat.zero_le _, HT, HCn, hid ⟨by have := HC.out; omega, Nat.le_refl _⟩, hid ESG.out.symm, hid ESS.out.symm⟩
      case round =>
        obtain ⟨i, v1, v2, C1, C2, L, cn1, cn2, rfl, hi, hi40, HH, HCe, HCC, HV1, HV2⟩ := hrel
        by_cases hlt : i < n
        · by_cases h40 : i < 40
          · have f1 : (i : Int) < (n : Int) := by omega
            have f2 : (i : Int) < 40 := by omega
            have HGw := hid (HG1.out.trans HH.out.a.gr)
            obtain ⟨ad, x, rfl, hx, hcl, hb, hxok⟩ := act12_at HAc.out HGw.out (i := i) (by rw [← EN.out]; exact hlt)
            have HX0 := hid hxok
            have q0 := hcl 0 _ rfl
            have q1 := hcl 1 _ rfl
            have q2 := hcl 2 _ rfl
            have q3 := hcl 3 _ rfl
            have q4 := hcl 4 _ rfl
            have q5 := hcl 5 _ rfl
            have q6 := hcl 6 _ rfl
            have q7 := hcl 7 _ rfl
            have q8 := hcl 8 _ rfl
            have q9 := hcl 9 _ rfl
            have q10 := hcl 10 _ rfl
            have q11 := hcl 11 _ rfl
            rw [add_zero] at q0
            rw [add_pos (by decide), block_add] at q1 q2 q3 q4 q5 q6 q7 q8 q9 q10 q11
            clear hx hcl hxok
            obtain ⟨kd, ⟨o, oA, oc⟩, xi, xk, xu, xv, rA, rc, rl⟩ := x
            simp only at q0 q1 q2 q3 q4 q5 q6 q7 q8 q9 q10 q11 HX0
            have HBo := hid (fun W => bigObj_c o oA oc W)
            have HBr := hid (fun W (hW : Grew w W) => bigRoots_c rA rc rl W (HX0.out.r.grew hW))
            obtain ⟨cls, ecls⟩ : ∃ cls, cls = o.cls := ⟨_, rfl⟩
            obtain ⟨lev, elev⟩ : ∃ lev, lev = o.lev := ⟨_, rfl⟩
            obtain ⟨m, em⟩ : ∃ m, m = o.f.length := ⟨_, rfl⟩
            obtain ⟨b, eb⟩ : ∃ b, b = o.b := ⟨_, rfl⟩
            obtain ⟨rn, ern⟩ : ∃ rn, rn = rl.length := ⟨_, rfl⟩
            rw [← ecls] at q1
            rw [← elev] at q2
            rw [← em] at q3
            rw [← eb] at q4
            rw [← ern] at q11
            rw [← ecls, ← elev, ← em, ← eb] at HBo
            rw [← ern] at HBr
            have EO := hid (show o.cls = cls ∧ o.lev = lev ∧ o.f.length = m ∧ o.b = b ∧ rl.length = rn from ⟨ecls.symm, elev.symm, em.symm, eb.symm, ern.symm⟩)
            obtain ⟨vk, vn, vl⟩ := xv
            simp only at q8 q9 q10
            clear ecls elev em eb ern
            obtain ⟨xc, exc⟩ : ∃ xc : Array Value, xc = #[.int .u8 ((kd : Nat) : Int), .int .i64 cls, .int .i64 lev, .slice oA m oc, .string b, .int .i64 xi, .int .i64 xk, .int .i64 xu, .int .u8 ((vk : Nat) : Int), .int .i64 vn, .int .i64 vl, .slice rA rn rc] := ⟨_, rfl⟩
            have B1 := Blk.new wr 67 #[.int .u8 ((kd : Nat) : Int), .int .i64 cls, .int .i64 lev, .slice oA m oc, .string b, .int .i64 xi, .int .i64 xk, .int .i64 xu, .int .u8 ((vk : Nat) : Int), .int .i64 vn, .int .i64 vl, .slice rA rn rc]
            have G1 := (Grew.refl wr).alloc (.cells #[.int .u8 ((kd : Nat) : Int), .int .i64 cls, .int .i64 lev, .slice oA m oc, .string b, .int .i64 xi, .int .i64 xk, .int .i64 xu, .int .u8 ((vk : Nat) : Int), .int .i64 vn, .int .i64 vl, .slice rA rn rc] 67)
            have XC := hid exc
            clear exc
            go_upto_region 12 with fail
            generalize wr.alloc (.cells #[.int .u8 ((kd : Nat) : Int), .int .i64 cls, .int .i64 lev, .slice oA m oc, .string b, .int .i64 xi, .int .i64 xk, .int .i64 xu, .int .u8 ((vk : Nat) : Int), .int .i64 vn, .int .i64 vl, .slice rA rn rc] 67) = w4' at *
            obtain ⟨gx, egx⟩ : ∃ gx, gx = wr.heap.size := ⟨_, rfl⟩
            rw [← egx] at B1 ⊢
            have HB4 := hid (show Blk w4' gx 67 xc by rw [XC.out]; exact B1)
            have HG4 := hid G1
            have p1 := B1.cell 1
            have p2 := B1.cell 2
            have p3 := B1.cell 3
            have p4 := B1.cell 4
            have pl := B1.lt
            simp only [List.getElem?_toArray, List.getElem?_cons_zero, List.getElem?_cons_succ] at p1 p2 p3 p4
            clear q0 q1 q2 q3 q4 q5 q6 q7 q8 q9 q10 q11 hb B1 G1 egx
            have HCell : Hid (∀ W, Blk W gx 67 xc → ∀ j u, (#[.int .u8 ((kd : Nat) : Int), .int .i64 cls, .int .i64 lev, .slice oA m oc, .string b, .int .i64 xi, .int .i64 xk, .int .i64 xu, .int .u8 ((vk : Nat) : Int), .int .i64 vn, .int .i64 vl, .slice rA rn rc] : Array Value)[j]? = some u → W.cell? ⟨gx, j, none⟩ = some u) := hid (fun W hW j u hu => by rw [XC.out] at hW; exact (hW.cell j).trans hu)
            obtain ⟨bo, ebo⟩ : ∃ bo, bo = bigO o := ⟨_, rfl⟩
            obtain ⟨br, ebr⟩ : ∃ br, br = bigR rl := ⟨_, rfl⟩
            rw [← ebo] at HBo
            rw [← ebr] at HBr
            have EBO := hid ebo
            have EBR := hid ebr
            clear ebo ebr
            cases bo
            · cases br
              · go_upto_region 13 with first | (go_at_call 20; refine (HBo.out _).mono ?_; rintro e w5 ⟨rfl, hg5⟩; have HB5 := hid (HB4.out.grew hg5); clear p1 p2 p3 p4 pl; have p11 := HCell.out w5 HB5.out 11 _ rfl; have pl := HB5.out.lt) | (go_at_call 7; refine (HBr.out _ (HGw.out.trans (HG4.out.trans hg5))).mono ?_; rintro e w6 ⟨rfl, hg6⟩; have HB6 := hid (HB5.out.grew hg6); clear p11 pl; have p0 := HCell.out w6 HB6.out 0 _ rfl; have pl := HB6.out.lt)
                have HH6 := hid (HH.out.more ((HG4.out.trans hg5).trans hg6))
                have HGf := hid (HG1.out.trans HH6.out.a.gr)
                have HFit := hid (bigO_fit EBO.out.symm)
                have HRt := hid (bigR_fit EBR.out.symm)
                clear hg5 hg6 HBo HBr HB4 HB5 HG4 HGw HH
                by_cases k1 : 1 < kd
                · have k1' : (1 : Int) < ((kd : Nat) : Int) := by omega
                  go_upto_region 14 with fail
                  clear p0 pl
                  have HLow := hid (show ∀ k, (HOwns v1 k ∨ HOwns v2 k) → w.heap.size ≤ k from fun k hk => Nat.le_trans HBw.out (hk.elim (fun h => (HH6.out.a.mem.owns h).1) (fun h => (HH6.out.b.mem.owns h).1)))
                  have hOw : ∀ k, (HOwns v1 k ∨ HOwns v2 k) → k < w6.heap.size := fun k hk => hk.elim (fun h => (HH6.out.a.mem.owns h).2) (fun h => (HH6.out.b.mem.owns h).2)
                  have HGw := HGf
                  have HGi := hid (fun W (hW : Grew w W) => giveRoots_c rA rc rl W (HX0.out.r.grew hW) (by have := HRt.out.1; omega) (fun x hx => by have := HRt.out.2 x hx; omega))
                  unfold GiveR at HGi
                  rw [EO.out.2.2.2.2] at HGi
                  have HRv := hid (fun x hx u hu => (HX0.out.r.ok x hx).1 u hu)
                  obtain ⟨d, ed⟩ : ∃ d : Int, d = (L.length : Int) - ((Hp.kept L (flat rl)).length : Int) := ⟨_, rfl⟩
                  have DD := hid ed
                  have HJ0 := hid (show CcJ wb B C1 C2 v1 v2 up room (qf room quota) L cn1 cn2 (flat rl) gx xc (fun _ => false) w6 from ⟨HB6.out, v1, v2, rfl, rfl, fun _ => rfl, fun _ => rfl, HH6.out⟩)
                  clear ed
                  refine wp_region_facts4 (w0 := w6) w6 11 11 [81, 82, 83, 84, 85, 86, 87, 88, 89, 90, 91] [] (CcF w6 sg ss gx rA rn rc rl d) (Kept (fun k => HOwns v1 k ∨ HOwns v2 k)) (fun _ => Kept (fun k => HOwns v1 k ∨ HOwns v2 k)) (CcJ wb B C1 C2 v1 v2 up room (qf room quota) L cn1 cn2 (flat rl) gx xc) (May.kept _) (fun _ _ _ h => h) (fun _ w => Kept.refl _ w) (by kernel_rfl) (by kernel_rfl) (Kept.refl _ _).drew (HJ0.out.grew (Grew.refl _).drew) (fun a b v w w' _ _ hab _ h hr => CcF.stable hOw a v w w' h hr) ?_ ?_
                  · repeat' (first | exact trivial | apply And.intro)
                    all_goals
                      intro a w' fl hgk hJ hfi hdep hs hA
                      have t7 := hs.eval 7 (by decide) (v := .pointer (some ⟨sg, 0, none⟩)) rfl
                      have t10 := hs.eval 10 (by decide) (v := .pointer (some ⟨ss, 0, none⟩)) rfl
                      have t13 := hs.eval 13 (by decide) (v := .pointer (some ⟨gx, 0, none⟩)) rfl
                      have HJ1 := hid hJ
                      have HFi := hid hfi
                      have HGK := hid hgk
                      clear hs hgk hJ hfi hdep
                      simp only [Ahead, Region.binds, slotOf, CcF, List.getD_cons_succ, List.getD_cons_zero, forall_const, and_true] at hA
                      simp only [wantedD, if_true]
                      unfold Oper.wp
                      have ec : ∀ v, a.eval (.const v) = v := fun _ => rfl
                      generalize hfe : a.eval = fe at *
                      have ef : ∀ k, fe (.func k) = Act.eval ⟨#[], []⟩ (.func k) := fun k => by rw [← hfe]; rfl
                      clear hfe
                    · go_simp
                      exact Gives3.of rfl (Kept.refl _ _) rfl (HJ1.out.pure 0 (by decide) (by decide))
                    · go_simp
                      exact Gives3.of rfl (Kept.refl _ _) rfl (HJ1.out.pure 1 (by decide) (by decide))
                    · have x11 := HJ1.out.1.cell 11
                      rw [XC.out] at x11
                      have xl := HJ1.out.1.lt
                      simp only [List.getElem?_toArray, List.getElem?_cons_zero, List.getElem?_cons_succ] at x11
                      go_simp
                      exact Gives3.of rfl (Kept.refl _ _) rfl (HJ1.out.pure 2 (by decide) (by decide))
                    · go_simp
                      refine (HGi.out w' (HGK.out.grew HGw.out HLow.out)).mono ?_
                      rintro e wz ⟨A', c', l', rfl, hr1, hm1, hf1, hgz⟩
                      exact Gives3.of rfl (Kept.of_grew hgz) ⟨A', c', l', rfl, hr1.low HGK.out.size, hm1, fun x hx => (hf1 x hx).low HGK.out.size⟩ ((HJ1.out.grew hgz).pure 3 (by decide) (by decide))
                    · obtain ⟨hv0, ⟨A', c', l', hv3, hr1, hm1, hf1⟩, hv9⟩ := hA
                      have HR1 := hid hr1
                      have HM1 := hid hm1
                      have HF1 := hid hf1
                      clear hr1 hm1 hf1
                      go_simp
                      obtain ⟨hbx, va, vb, e1, e2, e3, e4, htw⟩ := HJ1.out
                      obtain rfl := e3 HFi.out
                      have hp := hCollect_c va B C1 A' c' l' w' htw.a.mem htw.a.ok (lists_row HR1.out HF1.out (fun x hx u hu => by obtain ⟨y, hy, e⟩ := map_l_mem HM1.out hx; exact HRv.out y hy u (by rw [e]; exact hu))) (by have h1 := congrArg List.length HM1.out; simp only [List.length_map] at h1; have := HRt.out.1; omega) (fun x hx => by obtain ⟨y, hy, e⟩ := map_l_mem HM1.out hx; have := HRt.out.2 y hy; rw [← e]; omega)
                      rw [map_l_flat HM1.out, HV1.out] at hp
                      refine hp.mono ?_
                      intro e wz hpz
                      obtain ⟨rfl, hj, hkk⟩ := CcJ.c4 hbx e2 e4 htw HFi.out hpz
                      rw [← DD.out]
                      exact Gives3.of rfl hkk rfl hj
                    · go_simp
                      exact Gives3.of rfl (Kept.refl _ _) rfl (HJ1.out.pure 5 (by decide) (by decide))
                    · go_simp
                      exact Gives3.of rfl (Kept.refl _ _) rfl (HJ1.out.pure 6 (by decide) (by decide))
                    · have x11 := HJ1.out.1.cell 11
                      rw [XC.out] at x11
                      have xl := HJ1.out.1.lt
                      simp only [List.getElem?_toArray, List.getElem?_cons_zero, List.getElem?_cons_succ] at x11
                      go_simp
                      exact Gives3.of rfl (Kept.refl _ _) rfl (HJ1.out.pure 7 (by decide) (by decide))
                    · go_simp
                      refine (HGi.out w' (HGK.out.grew HGw.out HLow.out)).mono ?_
                      rintro e wz ⟨A', c', l', rfl, hr1, hm1, hf1, hgz⟩
                      exact Gives3.of rfl (Kept.of_grew hgz) ⟨A', c', l', rfl, hr1.low HGK.out.size, hm1, fun x hx => (hf1 x hx).low HGK.out.size⟩ ((HJ1.out.grew hgz).pure 8 (by decide) (by decide))
                    · obtain ⟨hv0, ⟨A', c', l', hv3, hr1, hm1, hf1⟩, hv9⟩ := hA
                      have HR1 := hid hr1
                      have HM1 := hid hm1
                      have HF1 := hid hf1
                      clear hr1 hm1 hf1
                      go_simp
                      obtain ⟨hbx, va, vb, e1, e2, e3, e4, htw⟩ := HJ1.out
                      obtain rfl := e4 HFi.out
                      have hp := hCollect_c vb B C2 A' c' l' w' htw.b.mem htw.b.ok (lists_row HR1.out HF1.out (fun x hx u hu => by obtain ⟨y, hy, e⟩ := map_l_mem HM1.out hx; exact HRv.out y hy u (by rw [e]; exact hu))) (by have h1 := congrArg List.length HM1.out; simp only [List.length_map] at h1; have := HRt.out.1; omega) (fun x hx => by obtain ⟨y, hy, e⟩ := map_l_mem HM1.out hx; have := HRt.out.2 y hy; rw [← e]; omega)
                      rw [map_l_flat HM1.out, HV2.out] at hp
                      refine hp.mono ?_
                      intro e wz hpz
                      obtain ⟨rfl, hj, hkk⟩ := CcJ.c9 hbx e1 e3 htw HFi.out hpz
                      rw [← DD.out]
                      exact Gives3.of rfl hkk rfl hj
                    · go_simp
                      exact Gives3.of rfl (Kept.refl _ _) rfl (HJ1.out.pure 10 (by decide) (by decide))
                  · intro a2 wn hgk hs hf hJ _
                    have h10 := hf 10 (by decide)
                    simp only [slotOf, CcF, List.getD_cons_succ, List.getD_cons_zero] at h10
                    obtain ⟨fn, rfl, hft⟩ := hs.put
                    rw [hft] at h10
                    obtain ⟨-, va, vb, e1, e2, -, -, htw⟩ := hJ
                    have HTw := hid (show TwoAt wb wn B C1 C2 va vb up room (qf room quota) (Hp.kept L (flat rl)) (Hp.kept L (flat rl)) cn1 cn2 from htw)
                    have HEa := hid e1
                    have HEb := hid e2
                    clear hf hft hs hgk htw e1 e2 HJ0 hOw HLow
                    simp only [List.drop_succ_cons, List.drop_zero, putAll, List.foldl_cons, List.foldl_nil, Act.put, List.setIfInBounds_toArray, List.set_cons_succ, List.set_cons_zero, h10]
                    clear h10
                    go_wp2_with fail
                    go_round
                    case rel => exact ⟨i + 1, va, vb, C1, C2, _, cn1, cn2, by go_num, by omega, by omega, HTw, HCe, hid ⟨by have := HCC.out.1; omega, by have := HCC.out.2; omega⟩, hid (by rw [HEa.out, HV1.out]), hid (by rw [HEb.out, HV2.out])⟩
                    case measure => simp [intOf]; omega
                · have k1' : ¬ (1 : Int) < ((kd : Nat) : Int) := by omega
                  go_upto_region 16 with fail
                  clear p0 pl
                  have HOv := hid (HX0.out.o.f.1)
                  have HCl := hid (show N64 cls ∧ N64 lev from ⟨by rw [← EO.out.1]; exact HX0.out.o.cls, by rw [← EO.out.2.1]; exact HX0.out.o.lev⟩)
                  obtain ⟨cs, ecs⟩ : ∃ cs, cs = o.f.flatMap valF := ⟨_, rfl⟩
                  have ECS := hid ecs
                  have HGr := HGf
                  have HLow := hid (show ∀ k, HOwns v1 k → w.heap.size ≤ k from fun k hk => Nat.le_trans HBw.out (HH6.out.a.mem.owns hk).1)
                  have hOl : ∀ k, HOwns v1 k → k < w6.heap.size := fun k hk => (HH6.out.a.mem.owns hk).2
                  have HJ0 := hid (show GgJ w6 (fun W => MemAt W B v1) gx xc (fun _ => false) w6 from ⟨HB6.out, fun _ => ⟨HH6.out.a.mem, Grew.refl _⟩⟩)
                  obtain ⟨kc, ekc⟩ : ∃ kc : Nat, kc = Hp.addCode up.length L room (qf room quota) o := ⟨_, rfl⟩
                  obtain ⟨r, er1⟩ : ∃ r : Int, r = if kc = 0 then ((Hp.least L : Nat) : Int) else 0 := ⟨_, rfl⟩
                  obtain ⟨er, eer⟩ : ∃ er, er = errVal kc := ⟨_, rfl⟩
                  have EKC := hid ekc
                  have ER1 := hid er1
                  have EER := hid eer
                  have HNk := hid (fun W (hW : Grew w W) => HNum.out kc W hW)
                  rw [← eer] at HNk
                  have HOa := hid (show OvOk w ⟨o, oA, oc⟩ from HX0.out.o)
                  have HGive : Hid (∀ W, Grew w W → Calls Tryd.prog 22 #[.slice oA m oc] W fun e w' => ∃ A' c', e = .returned (.slice A' m c') ∧ Row w' W.heap.size 48 3 A' m c' cs ∧ Grew W w') := hid (fun W hW => by
                    have h1 := giveVals_c oA oc o.f W (HOa.out.f.grew hW) (by have := HFit.out.1; omega)
                    unfold GiveV at h1
                    rw [EO.out.2.2.1, ← ECS.out] at h1
                    exact h1)
                  have HAdd : Hid (∀ A' c' W, MemAt W B v1 → Grew w6 W → Row W w6.heap.size 48 3 A' m c' cs → Calls Tryd.prog 21 #[.pointer (some ⟨sg, 0, none⟩), .int .i64 cls, .int .i64 lev, .slice A' m c', .string b] W fun e w' => e = .returned (.tuple #[.int .i64 r, er]) ∧ AddV w6 B v1 C1 o (.returned (.tuple #[.int .i64 r, er])) w' ∧ Kept (HOwns v1) W w') := hid (fun A' c' W hm hg hr => by
                    have h1 := hAdd_c v1 B C1 ⟨o, A', c'⟩ W hm HH6.out.a.ok (by have h5 := HCC.out.1; omega) ⟨row_vals (by rw [ECS.out, ← EO.out.2.2.1] at hr; exact hr) rfl HOv.out, HX0.out.o.cls, HX0.out.o.lev, by simp only [EO.out.2.2.1]; exact hr.cases.2.1⟩ (fun _ ad e hk => by
                      have h2 := Row.at_base hr ad.block ⟨ad, e, rfl⟩
                      have h3 := hOl _ hk
                      omega)
                    simp only at h1
                    rw [EO.out.1, EO.out.2.1, EO.out.2.2.1, EO.out.2.2.2.1, HV1.out] at h1
                    refine h1.mono ?_
                    intro e w' hp
                    obtain ⟨v', he, _⟩ := (HH6.out.more hg).add1 hp
                    have he2 : e = .returned (.tuple #[.int .i64 r, er]) := by rw [he, EER.out, ER1.out, EKC.out]
                    subst he2
                    exact ⟨rfl, hp.from ⟨HH6.out.a.mem, hg⟩, hp.kept⟩)
                  have hPA : ∀ W W', AddV w6 B v1 C1 o (.returned (.tuple #[.int .i64 r, er])) W → Grew W W' → AddV w6 B v1 C1 o (.returned (.tuple #[.int .i64 r, er])) W' := fun _ _ h hg => h.grew hg
                  have hMM : ∀ W W', MemAt W B v1 → Grew W W' → MemAt W' B v1 := fun _ _ h hg => h.grew hg
                  have HNg := hid (HH6.out.a.mem.alien HB6.out (by decide) (by decide) (by decide) (by decide))
                  clear ecs er1 ekc eer
                  refine wp_region_facts4 (w0 := w6) w6 20 20 [93, 94, 95, 96, 97, 98, 99, 100, 101, 102, 103, 104, 105, 106, 107, 92, 108, 109, 14, 15] [] (GgF w6 (fun W => AddV w6 B v1 C1 o (.returned (.tuple #[.int .i64 r, er])) W) sg gx cls lev oA m oc b cs r er) (Kept (HOwns v1)) (GRo 14 (HOwns v1)) (GgJ w6 (fun W => MemAt W B v1) gx xc) (May.kept _) GRo.zero GRo.refl (by kernel_rfl) (by kernel_rfl) (Kept.refl _ _).drew (HJ0.out.grew hMM (Grew.refl _).drew) (fun a b v w w' _ _ hab _ h hr => GgF.stable hOl hPA a b v w w' hab h hr) ?_ ?_
                  · repeat' (first | exact trivial | apply And.intro)
                    all_goals
                      intro a w' fl hgk hJ hfi hdep hs hA
                      have t7 := hs.eval 7 (by decide) (v := .pointer (some ⟨sg, 0, none⟩)) rfl
                      have t13 := hs.eval 13 (by decide) (v := .pointer (some ⟨gx, 0, none⟩)) rfl
                      have HJ1 := hid hJ
                      have HFi := hid hfi
                      have HGK := hid hgk
                      clear hs hgk hJ hfi hdep
                      simp only [Ahead, Region.binds, slotOf, GgF, List.getD_cons_succ, List.getD_cons_zero, forall_const, and_true] at hA
                      simp only [wantedD, if_true]
                      unfold Oper.wp
                      have ec : ∀ v, a.eval (.const v) = v := fun _ => rfl
                      generalize hfe : a.eval = fe at *
                      have ef : ∀ k, fe (.func k) = Act.eval ⟨#[], []⟩ (.func k) := fun k => by rw [← hfe]; rfl
                      clear hfe
                    · go_simp
                      exact Gives3.of rfl (GRo.refl 0 _) rfl (HJ1.out.pure 0 (by decide))
                    · go_simp
                      exact Gives3.of rfl (GRo.refl 1 _) rfl (HJ1.out.pure 1 (by decide))
                    · go_simp
                      exact Gives3.of rfl (GRo.refl 2 _) rfl (HJ1.out.pure 2 (by decide))
                    · have x0 := HJ1.out.1.cell 1
                      rw [XC.out] at x0
                      have xl := HJ1.out.1.lt
                      simp only [List.getElem?_toArray, List.getElem?_cons_zero, List.getElem?_cons_succ] at x0
                      go_simp
                      exact Gives3.of rfl (GRo.refl 3 _) rfl (HJ1.out.pure 3 (by decide))
                    · go_simp
                      exact Gives3.of rfl (GRo.refl 4 _) rfl (HJ1.out.pure 4 (by decide))
                    · go_simp
                      exact Gives3.of rfl (GRo.refl 5 _) rfl (HJ1.out.pure 5 (by decide))
                    · have x0 := HJ1.out.1.cell 2
                      rw [XC.out] at x0
                      have xl := HJ1.out.1.lt
                      simp only [List.getElem?_toArray, List.getElem?_cons_zero, List.getElem?_cons_succ] at x0
                      go_simp
                      exact Gives3.of rfl (GRo.refl 6 _) rfl (HJ1.out.pure 6 (by decide))
                    · go_simp
                      exact Gives3.of rfl (GRo.refl 7 _) rfl (HJ1.out.pure 7 (by decide))
                    · go_simp
                      exact Gives3.of rfl (GRo.refl 8 _) rfl (HJ1.out.pure 8 (by decide))
                    · have x0 := HJ1.out.1.cell 3
                      rw [XC.out] at x0
                      have xl := HJ1.out.1.lt
                      simp only [List.getElem?_toArray, List.getElem?_cons_zero, List.getElem?_cons_succ] at x0
                      go_simp
                      exact Gives3.of rfl (GRo.refl 9 _) rfl (HJ1.out.pure 9 (by decide))
                    · go_simp
                      refine (HGive.out w' (HGK.out.grew HGr.out HLow.out)).mono ?_
                      rintro e wz ⟨A', c', rfl, hrz, hgz⟩
                      exact Gives3.of rfl (GRo.grew (j := 10) hgz) ⟨A', c', rfl, hrz.low HGK.out.size⟩ ((HJ1.out.grew hMM hgz).pure 10 (by decide))
                    · go_simp
                      exact Gives3.of rfl (GRo.refl 11 _) rfl (HJ1.out.pure 11 (by decide))
                    · go_simp
                      exact Gives3.of rfl (GRo.refl 12 _) rfl (HJ1.out.pure 12 (by decide))
                    · have x0 := HJ1.out.1.cell 4
                      rw [XC.out] at x0
                      have xl := HJ1.out.1.lt
                      simp only [List.getElem?_toArray, List.getElem?_cons_zero, List.getElem?_cons_succ] at x0
                      go_simp
                      exact Gives3.of rfl (GRo.refl 13 _) rfl (HJ1.out.pure 13 (by decide))
                    · obtain ⟨hv0, hv1, hv2, ⟨A', c', hv3, hrz⟩, hv4⟩ := hA
                      have HRz := hid hrz
                      clear hrz
                      go_simp
                      obtain ⟨hm1, hg1⟩ := HJ1.out.2 HFi.out
                      refine (HAdd.out A' c' w' hm1 hg1 HRz.out).mono ?_
                      rintro e wz ⟨rfl, hpa, hkp⟩
                      exact Gives3.of rfl (GRo.at hkp) ⟨rfl, hpa⟩ (HJ1.out.add hkp HNg.out)
                    · have hv := hA.1
                      go_simp
                      exact Gives3.of rfl (GRo.refl 15 _) rfl (HJ1.out.pure 15 (by decide))
                    · go_simp
                      exact Gives3.of rfl (GRo.refl 16 _) rfl (HJ1.out.pure 16 (by decide))
                    · go_simp
                      exact Gives3.of rfl (GRo.refl 17 _) rfl (HJ1.out.pure 17 (by decide))
                    · have hv := hA.1
                      go_simp
                      exact Gives3.of rfl (GRo.refl 18 _) rfl (HJ1.out.pure 18 (by decide))
                    · have hv := hA.1
                      go_simp
                      exact Gives3.of rfl (GRo.refl 19 _) rfl (HJ1.out.pure 19 (by decide))
                  · intro a2 wn hgk hs hf hJ _
                    have h14 := hf 14 (by decide)
                    have h18 := hf 18 (by decide)
                    have h19 := hf 19 (by decide)
                    simp only [slotOf, GgF, List.getD_cons_succ, List.getD_cons_zero] at h14 h18 h19
                    obtain ⟨-, hadd⟩ := h14
                    obtain ⟨fn, rfl, hft⟩ := hs.put
                    rw [hft] at h18 h19
                    obtain ⟨w7, ew7⟩ : ∃ w7, w7 = wn := ⟨_, rfl⟩
                    subst ew7
                    obtain ⟨va, -, hg2, hh2⟩ := HH6.out.add1 hadd
                    have HH7 := hid hh2
                    have HVa := hid hg2
                    have HB7 := hid (HB6.out.kept hgk HNg.out)
                    clear hf hft hs hgk hJ hadd hh2 hg2
                    simp only [List.drop_succ_cons, List.drop_zero, putAll, List.foldl_cons, List.foldl_nil, Act.put, List.setIfInBounds_toArray, List.set_cons_succ, List.set_cons_zero, h18, h19]
                    clear h18 h19 hOl hPA hMM HAdd HJ0 HLow HGr HH6 HB6
                    go_upto_region 17 with fail
                    have HGr2 := hid (HG1.out.trans HH7.out.a.gr)
                    have HLow2 := hid (show ∀ k, HOwns v2 k → w.heap.size ≤ k from fun k hk => Nat.le_trans HBw.out (HH7.out.b.mem.owns hk).1)
                    have hOs : ∀ k, HOwns v2 k → k < w7.heap.size := fun k hk => (HH7.out.b.mem.owns hk).2
                    have HJ2 := hid (show GgJ w7 (fun W => MemAt W B v2) gx xc (fun _ => false) w7 from ⟨HB7.out, fun _ => ⟨HH7.out.b.mem, Grew.refl _⟩⟩)
                    have HAd2 : Hid (∀ A' c' W, MemAt W B v2 → Grew w7 W → Row W w7.heap.size 48 3 A' m c' cs → Calls Tryd.prog 21 #[.pointer (some ⟨ss, 0, none⟩), .int .i64 cls, .int .i64 lev, .slice A' m c', .string b] W fun e w' => e = .returned (.tuple #[.int .i64 r, er]) ∧ AddV w7 B v2 C2 o (.returned (.tuple #[.int .i64 r, er])) w' ∧ Kept (HOwns v2) W w') := hid (fun A' c' W hm hg hr => by
                      have h1 := hAdd_c v2 B C2 ⟨o, A', c'⟩ W hm HH7.out.b.ok (by have h5 := HCC.out.2; omega) ⟨row_vals (by rw [ECS.out, ← EO.out.2.2.1] at hr; exact hr) rfl HOv.out, HX0.out.o.cls, HX0.out.o.lev, by simp only [EO.out.2.2.1]; exact hr.cases.2.1⟩ (fun _ ad e hk => by
                        have h2 := Row.at_base hr ad.block ⟨ad, e, rfl⟩
                        have h3 := hOs _ hk
                        omega)
                      simp only at h1
                      rw [EO.out.1, EO.out.2.1, EO.out.2.2.1, EO.out.2.2.2.1, HV2.out] at h1
                      refine h1.mono ?_
                      intro e w' hp
                      obtain ⟨v', he, _⟩ := (HH7.out.more hg).swap.add1 hp
                      have he2 : e = .returned (.tuple #[.int .i64 r, er]) := by rw [he, EER.out, ER1.out, EKC.out]
                      subst he2
                      exact ⟨rfl, hp.from ⟨HH7.out.b.mem, hg⟩, hp.kept⟩)
                    have hPs : ∀ W W', AddV w7 B v2 C2 o (.returned (.tuple #[.int .i64 r, er])) W → Grew W W' → AddV w7 B v2 C2 o (.returned (.tuple #[.int .i64 r, er])) W' := fun _ _ h hg => h.grew hg
                    have hMs : ∀ W W', MemAt W B v2 → Grew W W' → MemAt W' B v2 := fun _ _ h hg => h.grew hg
                    have HNs := hid (HH7.out.b.mem.alien HB7.out (by decide) (by decide) (by decide) (by decide))
                    refine wp_region_facts4 (w0 := w7) w7 20 20 [111, 112, 113, 114, 115, 116, 117, 118, 119, 120, 121, 122, 123, 124, 125, 110, 126, 127, 16, 17] [] (GgF w7 (fun W => AddV w7 B v2 C2 o (.returned (.tuple #[.int .i64 r, er])) W) ss gx cls lev oA m oc b cs r er) (Kept (HOwns v2)) (GRo 14 (HOwns v2)) (GgJ w7 (fun W => MemAt W B v2) gx xc) (May.kept _) GRo.zero GRo.refl (by kernel_rfl) (by kernel_rfl) (Kept.refl _ _).drew (HJ2.out.grew hMs (Grew.refl _).drew) (fun a b v w w' _ _ hab _ h hr => GgF.stable hOs hPs a b v w w' hab h hr) ?_ ?_
                    · repeat' (first | exact trivial | apply And.intro)
                      all_goals
                        intro a w' fl hgk hJ hfi hdep hs hA
                        have t10 := hs.eval 10 (by decide) (v := .pointer (some ⟨ss, 0, none⟩)) rfl
                        have t13 := hs.eval 13 (by decide) (v := .pointer (some ⟨gx, 0, none⟩)) rfl
                        have HJ1 := hid hJ
                        have HFi := hid hfi
                        have HGK := hid hgk
                        clear hs hgk hJ hfi hdep
                        simp only [Ahead, Region.binds, slotOf, GgF, List.getD_cons_succ, List.getD_cons_zero, forall_const, and_true] at hA
                        simp only [wantedD, if_true]
                        unfold Oper.wp
                        have ec : ∀ v, a.eval (.const v) = v := fun _ => rfl
                        generalize hfe : a.eval = fe at *
                        have ef : ∀ k, fe (.func k) = Act.eval ⟨#[], []⟩ (.func k) := fun k => by rw [← hfe]; rfl
                        clear hfe
                      · go_simp
                        exact Gives3.of rfl (GRo.refl 0 _) rfl (HJ1.out.pure 0 (by decide))
                      · go_simp
                        exact Gives3.of rfl (GRo.refl 1 _) rfl (HJ1.out.pure 1 (by decide))
                      · go_simp
                        exact Gives3.of rfl (GRo.refl 2 _) rfl (HJ1.out.pure 2 (by decide))
                      · have x0 := HJ1.out.1.cell 1
                        rw [XC.out] at x0
                        have xl := HJ1.out.1.lt
                        simp only [List.getElem?_toArray, List.getElem?_cons_zero, List.getElem?_cons_succ] at x0
                        go_simp
                        exact Gives3.of rfl (GRo.refl 3 _) rfl (HJ1.out.pure 3 (by decide))
                      · go_simp
                        exact Gives3.of rfl (GRo.refl 4 _) rfl (HJ1.out.pure 4 (by decide))
                      · go_simp
                        exact Gives3.of rfl (GRo.refl 5 _) rfl (HJ1.out.pure 5 (by decide))
                      · have x0 := HJ1.out.1.cell 2
                        rw [XC.out] at x0
                        have xl := HJ1.out.1.lt
                        simp only [List.getElem?_toArray, List.getElem?_cons_zero, List.getElem?_cons_succ] at x0
                        go_simp
                        exact Gives3.of rfl (GRo.refl 6 _) rfl (HJ1.out.pure 6 (by decide))
                      · go_simp
                        exact Gives3.of rfl (GRo.refl 7 _) rfl (HJ1.out.pure 7 (by decide))
                      · go_simp
                        exact Gives3.of rfl (GRo.refl 8 _) rfl (HJ1.out.pure 8 (by decide))
                      · have x0 := HJ1.out.1.cell 3
                        rw [XC.out] at x0
                        have xl := HJ1.out.1.lt
                        simp only [List.getElem?_toArray, List.getElem?_cons_zero, List.getElem?_cons_succ] at x0
                        go_simp
                        exact Gives3.of rfl (GRo.refl 9 _) rfl (HJ1.out.pure 9 (by decide))
                      · go_simp
                        refine (HGive.out w' (HGK.out.grew HGr2.out HLow2.out)).mono ?_
                        rintro e wz ⟨A', c', rfl, hrz, hgz⟩
                        exact Gives3.of rfl (GRo.grew (j := 10) hgz) ⟨A', c', rfl, hrz.low HGK.out.size⟩ ((HJ1.out.grew hMs hgz).pure 10 (by decide))
                      · go_simp
                        exact Gives3.of rfl (GRo.refl 11 _) rfl (HJ1.out.pure 11 (by decide))
                      · go_simp
                        exact Gives3.of rfl (GRo.refl 12 _) rfl (HJ1.out.pure 12 (by decide))
                      · have x0 := HJ1.out.1.cell 4
                        rw [XC.out] at x0
                        have xl := HJ1.out.1.lt
                        simp only [List.getElem?_toArray, List.getElem?_cons_zero, List.getElem?_cons_succ] at x0
                        go_simp
                        exact Gives3.of rfl (GRo.refl 13 _) rfl (HJ1.out.pure 13 (by decide))
                      · obtain ⟨hv0, hv1, hv2, ⟨A', c', hv3, hrz⟩, hv4⟩ := hA
                        have HRz := hid hrz
                        clear hrz
                        go_simp
                        obtain ⟨hm1, hg1⟩ := HJ1.out.2 HFi.out
                        refine (HAd2.out A' c' w' hm1 hg1 HRz.out).mono ?_
                        rintro e wz ⟨rfl, hpa, hkp⟩
                        exact Gives3.of rfl (GRo.at hkp) ⟨rfl, hpa⟩ (HJ1.out.add hkp HNs.out)
                      · have hv := hA.1
                        go_simp
                        exact Gives3.of rfl (GRo.refl 15 _) rfl (HJ1.out.pure 15 (by decide))
                      · go_simp
                        exact Gives3.of rfl (GRo.refl 16 _) rfl (HJ1.out.pure 16 (by decide))
                      · go_simp
                        exact Gives3.of rfl (GRo.refl 17 _) rfl (HJ1.out.pure 17 (by decide))
                      · have hv := hA.1
                        go_simp
                        exact Gives3.of rfl (GRo.refl 18 _) rfl (HJ1.out.pure 18 (by decide))
                      · have hv := hA.1
                        go_simp
                        exact Gives3.of rfl (GRo.refl 19 _) rfl (HJ1.out.pure 19 (by decide))
                    · intro a2 wn hgk hs hf hJ _
                      have h14 := hf 14 (by decide)
                      have h18 := hf 18 (by decide)
                      have h19 := hf 19 (by decide)
                      simp only [slotOf, GgF, List.getD_cons_succ, List.getD_cons_zero] at h14 h18 h19
                      obtain ⟨-, hadd⟩ := h14
                      obtain ⟨fn2, rfl, hft⟩ := hs.put
                      rw [hft] at h18 h19
                      obtain ⟨vb, -, hg2, hh2⟩ := HH7.out.swap.add1 hadd
                      have hT := hh2.swap
                      rw [← addL_eq HCe.out o] at hT
                      obtain ⟨L', eL'⟩ : ∃ L', L' = addL up.length L room (qf room quota) cn1 o := ⟨_, rfl⟩
                      rw [← eL'] at hT
                      have HT8 := hid hT
                      have HEL := hid eL'
                      have HSL := hid (show Hp.Sorted L ∧ ∀ x ∈ L, 0 ≤ x.i from ⟨HH7.out.b.sorted, fun x hx => (HH7.out.b.range x hx).1⟩)
                      have HVb := hid hg2
                      clear hf hft hs hgk hJ hadd hh2 hg2 hT eL'
                      simp only [List.drop_succ_cons, List.drop_zero, putAll, List.foldl_cons, List.foldl_nil, Act.put, List.setIfInBounds_toArray, List.set_cons_succ, List.set_cons_zero, h18, h19]
                      clear h18 h19 hOs hPs hMs HAd2 HJ2 HLow2 HGr2 HH7 HB7 HGive
                      go_wp2_with fail
                      refine (HNk.out wn (HG1.out.trans HT8.out.a.gr)).mono ?_
                      rintro e w9 ⟨rfl, hg9⟩
                      have HG9 := hid hg9
                      clear hg9
                      go_wp2_with fail
                      refine (HNk.out w9 ((HG1.out.trans HT8.out.a.gr).trans HG9.out)).mono ?_
                      rintro e w10 ⟨rfl, hg10⟩
                      have HT10 := hid (HT8.out.more (HG9.out.trans hg10))
                      clear hg10 HG9 HT8 HNk
                      have HCe2 := hid (addN_eq (L := L) (room := room) (q := qf room quota) HCe.out o)
                      by_cases hk0 : kc = 0
                      · have her : er = .nilIface := by rw [EER.out, hk0]; rfl
                        subst her
                        have HFd := hid (show hcH L' r = 0 by rw [HEL.out, ER1.out, if_pos hk0]; exact add_found (by rw [← EKC.out]; exact hk0) HSL.out.1 HSL.out.2)
                        have HHa := hid (fun W (hW : Grew w10 W) => (HT10.out.more hW).a.hash r)
                        have HHb := hid (fun W (hW : Grew w10 W) => (HT10.out.more hW).b.hash r)
                        rw [HFd.out, show errVal 0 = .nilIface from rfl, HVa.out, HV1.out] at HHa
                        rw [HFd.out, show errVal 0 = .nilIface from rfl, HVb.out, HV2.out] at HHb
                        clear hk0
                        go_wp2_with fail
                        refine (HHa.out w10 (Grew.refl _)).mono ?_
                        rintro e w11 ⟨rfl, hg11⟩
                        have HG11 := hid hg11
                        clear hg11
                        go_wp2_with fail
                        refine (HHb.out w11 HG11.out).mono ?_
                        rintro e w12 ⟨rfl, hg12⟩
                        have HG12 := hid (HG11.out.trans hg12)
                        clear hg12
                        go_wp2_with fail
                        go_round
                        case rel => exact ⟨i + 1, va, vb, C1 + 1, C2 + 1, L', _, _, by go_num, by omega, by omega, hid (HT10.out.more HG12.out), HCe2, hid ⟨by have := HCC.out.1; omega, by have := HCC.out.2; omega⟩, hid (by rw [HVa.out, HV1.out]), hid (by rw [HVb.out, HV2.out])⟩
                        case measure => simp [intOf]; omega
                      · have her : er = .iface 94 (.int .i64 ((kc : Nat) : Int)) := by rw [EER.out]; exact if_neg hk0
                        subst her
                        clear hk0
                        go_wp2_with fail
                        go_round
                        case rel => exact ⟨i + 1, va, vb, C1 + 1, C2 + 1, L', _, _, by go_num, by omega, by omega, HT10, HCe2, hid ⟨by have := HCC.out.1; omega, by have := HCC.out.2; omega⟩, hid (by rw [HVa.out, HV1.out]), hid (by rw [HVb.out, HV2.out])⟩
                        case measure => simp [intOf]; omega
              · go_wp2_with first | (go_at_call 20; refine (HBo.out _).mono ?_; rintro e w5 ⟨rfl, hg5⟩; have HB5 := hid (HB4.out.grew hg5); clear p1 p2 p3 p4 pl; have p11 := HCell.out w5 HB5.out 11 _ rfl; have pl := HB5.out.lt) | (go_at_call 7; refine (HBr.out _ (HGw.out.trans (HG4.out.trans hg5))).mono ?_; rintro e w6 ⟨rfl, hg6⟩; have HG6 := hid ((HG4.out.trans hg5).trans hg6); clear p11 pl)
                go_round
                case rel => exact ⟨i + 1, v1, v2, C1, C2, L, cn1, cn2, by go_num, by omega, by omega, hid (HH.out.more HG6.out), HCe, hid ⟨by have := HCC.out.1; omega, by have := HCC.out.2; omega⟩, HV1, HV2⟩
                case measure => simp [intOf]; omega
            · go_wp2_with (go_at_call 20; refine (HBo.out _).mono ?_; rintro e w5 ⟨rfl, hg5⟩; have HG5 := hid (HG4.out.trans hg5); clear p1 p2 p3 p4 pl hg5)
              go_round
              case rel => exact ⟨i + 1, v1, v2, C1, C2, L, cn1, cn2, by go_num, by omega, by omega, hid (HH.out.more HG5.out), HCe, hid ⟨by have := HCC.out.1; omega, by have := HCC.out.2; omega⟩, HV1, HV2⟩
              case measure => simp [intOf]; omega
          · have f1 : (i : Int) < (n : Int) := by omega
            have f2 : ¬ (i : Int) < 40 := by omega
            have HLa := hid (fun W (hW : Grew wr W) => (HH.out.more hW).a.lenI)
            have HLb := hid (fun W (hW : Grew wr W) => (HH.out.more hW).b.lenI)
            rw [HV1.out] at HLa
            rw [HV2.out] at HLb
            obtain ⟨ll, ell⟩ : ∃ ll, ll = L.length := ⟨_, rfl⟩
            rw [← ell] at HLa HLb
            clear ell
            go_wp2_with fail
            refine (HLa.out wr (Grew.refl _)).mono ?_
            rintro e w5 ⟨rfl, hg5⟩
            have HG5 := hid hg5
            clear hg5
            go_wp2_with fail
            refine (HLb.out w5 HG5.out).mono ?_
            rintro e w6 ⟨rfl, hg6⟩
            have HG6 := hid (HG5.out.trans hg6)
            clear hg6
            go_wp2_with (go_at_call 8; refine (HSu.out _ ((HG1.out.trans HH.out.a.gr).trans HG6.out)).mono ?_; rintro e w7 ⟨rfl, hg7⟩; have HG7 := hid hg7; clear hg7)
            go_ret
            exact ⟨rfl, ((HG1.out.trans HH.out.a.gr).trans HG6.out).trans HG7.out⟩
        · have f1 : ¬ (i : Int) < (n : Int) := by omega
          have HLa := hid (fun W (hW : Grew wr W) => (HH.out.more hW).a.lenI)
          have HLb := hid (fun W (hW : Grew wr W) => (HH.out.more hW).b.lenI)
          rw [HV1.out] at HLa
          rw [HV2.out] at HLb
          obtain ⟨ll, ell⟩ : ∃ ll, ll = L.length := ⟨_, rfl⟩
          rw [← ell] at HLa HLb
          clear ell
          go_wp2_with fail
          refine (HLa.out wr (Grew.refl _)).mono ?_
          rintro e w5 ⟨rfl, hg5⟩
          have HG5 := hid hg5
          clear hg5
          go_wp2_with fail
          refine (HLb.out w5 HG5.out).mono ?_
          rintro e w6 ⟨rfl, hg6⟩
          have HG6 := hid (HG5.out.trans hg6)
          clear hg6
          go_wp2_with (go_at_call 8; refine (HSu.out _ ((HG1.out.trans HH.out.a.gr).trans HG6.out)).mono ?_; rintro e w7 ⟨rfl, hg7⟩; have HG7 := hid hg7; clear hg7)
          go_ret
          exact ⟨rfl, ((HG1.out.trans HH.out.a.gr).trans HG6.out).trans HG7.out⟩
end Go.Proofs.YtidnaednldcdfaaDoor

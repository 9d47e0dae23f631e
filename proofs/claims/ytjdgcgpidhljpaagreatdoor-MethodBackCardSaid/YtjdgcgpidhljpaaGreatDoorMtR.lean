/- Stage 9: readLit, readPart. -/
import Derived.Test.YtjdgcgpidhljpaaGreatDoorMtM
import Derived.Test.YtjdgcgpidhljpaaGreatDoorYFlB
import Derived.Lib.BufferWrite
namespace Go.Proofs.YtjdgcgpidhljpaaGreatDoor
open Go.RowKit

theorem int_in {st : Pk.St} {a b : Int} (h0 : a ≤ 0) (h1 : 0 ≤ b) : a ≤ (Pk.int st a b).1 ∧ (Pk.int st a b).1 ≤ b := by
  rcases h : Pk.int st a b with ⟨n, r⟩
  cases r with
  | some r =>
    obtain ⟨_, h2, h3, _⟩ := Mt.int_some h
    exact ⟨h2, h3⟩
  | none =>
    unfold Pk.int at h
    split at h
    · cases h
    · cases h; exact ⟨h0, h1⟩
theorem text_in {st : Pk.St} {m : Nat} : (Pk.text st m).1.length ≤ m ∧ ∀ x ∈ (Pk.text st m).1, x ∈ Pk.rest st := by
  rcases h : Pk.text st m with ⟨s, r⟩
  cases r with
  | some r =>
    obtain ⟨h2, h3⟩ := Mt.text_some h
    refine ⟨by simp only; omega, fun x hx => ?_⟩
    subst h3
    simp [Pk.rest, Mt.encText, hx]
  | none =>
    unfold Pk.text at h
    split at h
    · cases h
    · cases h; exact ⟨by simp, by simp⟩
theorem litR_in (st : Pk.St) : (Mt.litR st).1.k ≤ 2 ∧ (Mt.litR st).1.s.size ≤ 1024 := by
  unfold Mt.litR
  simp only
  have h1 := int_in (st := st) (a := 0) (b := 2) (by decide) (by decide)
  have h2 := (text_in (st := (Pk.int st 0 2).2) (m := 1024)).1
  rw [Mt.strB_size]
  exact ⟨by omega, h2⟩
/-- What 'readLit' answers. -/
def RLitPost (w : World) (lo g : Nat) (r : Mt.Lit × Pk.St) (e : Ending) (w' : World) : Prop :=
  e = .returned (.agg #[.int .u8 ((r.1.k : Nat) : Int), .string r.1.s]) ∧ RdAt w' lo g r.2 ∧ Kept (· = g) w w'
set_option maxRecDepth 100000 in
set_option maxHeartbeats 1000000 in
theorem readLit_c (lo g : Nat) (st : Pk.St) (w : World) (h : RdAt w lo g st) (hlo : lo ≤ g) :
    Calls Tryz.prog 32 #[.pointer (some ⟨g, 0, none⟩)] w (RLitPost w lo g (Mt.litR st)) := by
  have hlt := h.lt
  have hg1 : Grew w (w.alloc (.cells #[.int .u8 0, .string ⟨#[]⟩] 62)) := (Grew.refl w).alloc _
  have hb := Blk.new w 62 #[.int .u8 0, .string ⟨#[]⟩]
  have HI := hid (rint_c lo g st 0 2 _ (h.grew hg1 hlo))
  have hk := int_in (st := st) (a := 0) (b := 2) (by decide) (by decide)
  have HR := hid (show Mt.litR st = (⟨(Pk.int st 0 2).1.toNat, Pk.strB (Pk.text (Pk.int st 0 2).2 1024).1⟩, (Pk.text (Pk.int st 0 2).2 1024).2) from rfl)
  generalize Mt.litR st = R at *
  generalize Pk.int st 0 2 = q at *
  obtain ⟨n, st1⟩ := q
  simp only at hk HR HI
  obtain ⟨k, rfl⟩ : ∃ k : Nat, n = k := ⟨n.toNat, by omega⟩
  rw [Int.toNat_natCast] at HR
  have hw : IntKind.u8.wrap ((k : Nat) : Int) = ((k : Nat) : Int) := by unfold IntKind.wrap; simp [IntKind.bits, IntKind.signed]; omega
  obtain ⟨H, hH⟩ : ∃ H, H = w.heap.size := ⟨_, rfl⟩
  have HH := hid hH
  rw [← hH] at hb hlt
  have HG1 := hid hg1
  have HB := hid hb
  have HLt := hid hlt
  clear h hk hg1 hb hH
  go_enter Tryz.func32, Tryz.ntmps32
  go_wp2_with fail
  rw [← HH.out]
  generalize w.alloc (.cells #[.int .u8 0, .string ⟨#[]⟩] 62) = w1 at *
  refine HI.out.mono ?_
  rintro e w2 ⟨rfl, hr2, hk2⟩
  simp only at hr2 ⊢
  have HK2 := hid hk2
  have HT := hid (rtext_c lo g st1 1024 w2 hr2)
  have HB2 := hid (HB.out.kept hk2 (by omega))
  clear hr2 hk2
  go_wp2_with fail
  refine HT.out.mono ?_
  rintro e w3 ⟨rfl, hr3, hk3⟩
  have HK3 := hid (HK2.out.trans hk3)
  have HB3 := HB2.out.kept hk3 (by omega)
  have HBk := hid HB3
  have HR3 := hid hr3
  have c0 := HB3.cell 0
  have c1 := HB3.cell 1
  have f0 := HB3.frozen 0
  have f1 := HB3.frozen 1
  simp only [List.getElem?_toArray, List.getElem?_cons_zero, List.getElem?_cons_succ] at c0 c1
  generalize Pk.text st1 1024 = T at *
  obtain ⟨ts, st2⟩ := T
  simp only at HR HR3
  clear hr3 hk3 HB3
  go_wp2_with fail
  have hb4 := (HBk.out.put 0 (.int .u8 ((k : Nat) : Int))).put 1 (.string (Pk.strB ts))
  have d0 := hb4.cell 0
  have d1 := hb4.cell 1
  simp only [List.setIfInBounds_toArray, List.set_cons_zero, List.set_cons_succ, List.getElem?_toArray, List.getElem?_cons_zero, List.getElem?_cons_succ] at d0 d1
  refine bodyPost_ret (v := .agg #[.int .u8 ((k : Nat) : Int), .string (Pk.strB ts)]) (by simp [results, Tryz.results32, go_sem, *]) rfl ?_
  have hkf : Kept (· = g) w ((w3.setCell ⟨H, 0, none⟩ (.int .u8 ((k : Nat) : Int))).setCell ⟨H, 1, none⟩ (.string (Pk.strB ts))) := (((Kept.of_grew HG1.out).trans HK3.out).setCell (p := ⟨H, 0, none⟩) (fun hp => by have := HH.out; simp only at hp; omega) _).setCell (p := ⟨H, 1, none⟩) (fun hp => by have := HH.out; simp only at hp; omega) _
  refine ⟨by rw [HR.out], ?_, hkf⟩
  rw [HR.out]
  have hks : Kept (· = H) w3 ((w3.setCell ⟨H, 0, none⟩ (.int .u8 ((k : Nat) : Int))).setCell ⟨H, 1, none⟩ (.string (Pk.strB ts))) := ((Kept.refl (· = H) w3).setCell (p := ⟨H, 0, none⟩) (fun _ => rfl) _).setCell (p := ⟨H, 1, none⟩) (fun _ => rfl) _
  exact HR3.out.kept hks (fun k h1 h2 e => by have := HLt.out; omega) hlo
theorem partR_in (st : Pk.St) : (-1 ≤ (Mt.partR st).1.outer ∧ (Mt.partR st).1.outer ≤ 63) ∧ (0 ≤ (Mt.partR st).1.args ∧ (Mt.partR st).1.args ≤ 16) ∧ (0 ≤ (Mt.partR st).1.temps ∧ (Mt.partR st).1.temps ≤ 16) ∧ (Mt.partR st).1.code.length ≤ 512 :=
  ⟨int_in (by decide) (by decide), int_in (by decide) (by decide), int_in (by decide) (by decide), text_in.1⟩
theorem u8_info9 : (Tryz.prog.info? 5).map (fun i => (i.zero, i.size, i.bytes)) = some (some (.int .u8 0), 1, 1) := by kernel_rfl
/-- What 'readPart' answers. -/
def RPartPost (w : World) (lo g : Nat) (r : Mt.Part × Pk.St) (e : Ending) (w' : World) : Prop :=
  ∃ v : PV, e = .returned (.agg (pvCells v)) ∧ v.p = r.1 ∧ PvOk w' v ∧ (∀ ad, v.A = some ad → w.heap.size ≤ ad.block ∧ ad.block < w'.heap.size) ∧ RdAt w' lo g r.2 ∧ Kept (· = g) w w'
set_option maxRecDepth 100000 in
/-- A result that is a part. -/
theorem res_part {fn : Func} {a : Tmp} (hr : fn.results = #[ResultVar.cell a 63]) (tmps : Array Value) (g : Nat) (ha : tmps.getD a undef = .pointer (some ⟨g, 0, none⟩)) (w : World) (c0 c1 c2 c3 : Value) (hb : Blk w g 63 #[c0, c1, c2, c3]) :
    (results fn tmps).run Tryz.prog w = .ok (.agg #[c0, c1, c2, c3]) w := by
  have y0 : w.cell? ⟨g, 0, none⟩ = some c0 := hb.cell 0
  have y1 : w.cell? ⟨g, 1, none⟩ = some c1 := hb.cell 1
  have y2 : w.cell? ⟨g, 2, none⟩ = some c2 := hb.cell 2
  have y3 : w.cell? ⟨g, 3, none⟩ = some c3 := hb.cell 3
  have ha' : tmps[a]?.getD undef = .pointer (some ⟨g, 0, none⟩) := by simpa using ha
  simp [results, go_sem, *]
theorem Blk.put4 {w : World} {g : Nat} {t : TypeId} {a0 a1 a2 a3 : Value} (h : Blk w g t #[a0, a1, a2, a3]) (c0 c1 c2 c3 : Value) :
    Blk ((((w.setCell ⟨g, 0, none⟩ c0).setCell ⟨g, 1, none⟩ c1).setCell ⟨g, 2, none⟩ c2).setCell ⟨g, 3, none⟩ c3) g t #[c0, c1, c2, c3] := by
  have := (((h.put 0 c0).put 1 c1).put 2 c2).put 3 c3
  simpa using this
theorem kept4 {F : Nat → Prop} {w w2 : World} {g : Nat} (h : Kept F w w2) (hg : g < w.heap.size → F g) (c0 c1 c2 c3 : Value) :
    Kept F w ((((w2.setCell ⟨g, 0, none⟩ c0).setCell ⟨g, 1, none⟩ c1).setCell ⟨g, 2, none⟩ c2).setCell ⟨g, 3, none⟩ c3) :=
  (((h.setCell (p := ⟨g, 0, none⟩) hg c0).setCell (p := ⟨g, 1, none⟩) hg c1).setCell (p := ⟨g, 2, none⟩) hg c2).setCell (p := ⟨g, 3, none⟩) hg c3
theorem Blk.row9 {w : World} {g : Nat} {t : TypeId} {old : Array Value} (h : Blk w g t old) (cs : Array Value) : Blk (w.setRow g cs) g t cs := setRow_heap w g old cs t _ h
theorem Kept.row9 {F : Nat → Prop} {a b : World} (h : Kept F a b) {g : Nat} (hg : g < a.heap.size → F g) (cs : Array Value) : Kept F a (b.setRow g cs) :=
  h.next (G := fun k => k = g) ⟨rfl, rfl, rfl, by simp, fun k _ hk => setRow_other b g k cs hk⟩ (fun i hi e => by subst e; exact hg hi)
set_option maxRecDepth 100000 in
set_option maxHeartbeats 4000000 in
theorem readPart_c (lo g : Nat) (st : Pk.St) (w : World) (h : RdAt w lo g st) (hlo : lo ≤ g) :
    Calls Tryz.prog 33 #[.pointer (some ⟨g, 0, none⟩)] w (RPartPost w lo g (Mt.partR st)) := by
  have hlt := h.lt
  have hg1 : Grew w (w.alloc (.cells #[.int .i64 0, .int .i64 0, .int .i64 0, .slice none 0 0] 63)) := (Grew.refl w).alloc _
  have hb := Blk.new w 63 #[.int .i64 0, .int .i64 0, .int .i64 0, .slice none 0 0]
  have HI := hid (rint_c lo g st (-1) 63 _ (h.grew hg1 hlo))
  have HR := hid (show Mt.partR st = (⟨(Pk.int st (-1) 63).1, (Pk.int (Pk.int st (-1) 63).2 0 16).1, (Pk.int (Pk.int (Pk.int st (-1) 63).2 0 16).2 0 16).1, (Pk.text (Pk.int (Pk.int (Pk.int st (-1) 63).2 0 16).2 0 16).2 512).1⟩, (Pk.text (Pk.int (Pk.int (Pk.int st (-1) 63).2 0 16).2 0 16).2 512).2) from rfl)
  have HIn := hid (partR_in st).2.2.2
  generalize Mt.partR st = R at *
  generalize Pk.int st (-1) 63 = q at *
  obtain ⟨no, st1⟩ := q
  simp only at HR HI
  have HI2 := hid (fun (w' : World) (h' : RdAt w' lo g st1) => rint_c lo g st1 0 16 w' h')
  generalize Pk.int st1 0 16 = q at *
  obtain ⟨na, st2⟩ := q
  simp only at HR HI2
  have HI3 := hid (fun (w' : World) (h' : RdAt w' lo g st2) => rint_c lo g st2 0 16 w' h')
  generalize Pk.int st2 0 16 = q at *
  obtain ⟨nt, st3⟩ := q
  simp only at HR HI3
  have HT := hid (fun (w' : World) (h' : RdAt w' lo g st3) => rtext_c lo g st3 512 w' h')
  have HTin := hid (text_in (st := st3) (m := 512)).2
  rw [show ((512 : Nat) : Int) = 512 from rfl] at HTin
  generalize Pk.text st3 512 = q at *
  obtain ⟨ts, st4⟩ := q
  simp only at HR HT HTin
  obtain ⟨H, hH⟩ : ∃ H, H = w.heap.size := ⟨_, rfl⟩
  have HH := hid hH
  rw [← hH] at hb hlt
  have HG1 := hid hg1
  have HB := hid hb
  have HLt := hid hlt
  clear h hg1 hb hH hlt
  go_enter Tryz.func33, Tryz.ntmps33
  go_wp2_with fail
  rw [← HH.out]
  generalize w.alloc (.cells #[.int .i64 0, .int .i64 0, .int .i64 0, .slice none 0 0] 63) = w1 at *
  refine HI.out.mono ?_
  rintro e w2 ⟨rfl, hr2, hk2⟩
  have HR2 := hid hr2
  have HK2 := hid hk2
  clear hr2 hk2 HI
  go_wp2_with fail
  refine (HI2.out _ HR2.out).mono ?_
  rintro e w3 ⟨rfl, hr3, hk3⟩
  have HR3 := hid hr3
  have HK3 := hid (HK2.out.trans hk3)
  clear hr3 hk3 HI2 HR2 HK2
  go_wp2_with fail
  refine (HI3.out _ HR3.out).mono ?_
  rintro e w4 ⟨rfl, hr4, hk4⟩
  have HK4 := hid (HK3.out.trans hk4)
  obtain ⟨H5, hH5⟩ : ∃ H5, H5 = w4.heap.size := ⟨_, rfl⟩
  have hb5 := Blk.new w4 63 #[.int .i64 no, .int .i64 na, .int .i64 nt, .slice none 0 0]
  have hg5 : Grew w4 (w4.alloc (.cells #[.int .i64 no, .int .i64 na, .int .i64 nt, .slice none 0 0] 63)) := (Grew.refl w4).alloc _
  have HR5 := hid (hr4.grew hg5 hlo)
  rw [← hH5] at hb5
  have HB5 := hid hb5
  have HK5 := hid (HK4.out.trans (.of_grew hg5))
  have HBr5 := hid ((HB.out.kept HK4.out (by have := HLt.out; omega)).grew hg5)
  have HHlt : Hid (H < H5 ∧ g < H5 ∧ w1.heap.size ≤ H5) := hid (by
    have h1 := (HB.out.kept HK4.out (by have := HLt.out; omega)).lt
    have h2 := hr4.lt
    have h3 := HK4.out.size
    omega)
  have HH5 := hid hH5
  have HT5 := hid (HT.out _ HR5.out)
  clear hr4 hk4 hb5 hg5 hH5 HI3 HR3 HK3 HT HB HK4
  go_wp2_with fail
  rw [← HH5.out]
  generalize w4.alloc (.cells #[.int .i64 no, .int .i64 na, .int .i64 nt, .slice none 0 0] 63) = w5 at *
  refine HT5.out.mono ?_
  rintro e w6 ⟨rfl, hr6, hk6⟩
  have hts : ∀ x ∈ ts, x < 256 := fun x hx => by
    obtain ⟨A, c, _, hA, _⟩ := HR5.out
    exact hA.1 x (HTin.out x hx)
  have hsz : (Pk.strB ts).size = ts.length := Mt.strB_size ts
  have hcl : ts.length ≤ 512 := by have := HIn.out; rw [HR.out] at this; exact this
  have hB6 := HB5.out.kept hk6 (by have := HHlt.out; omega)
  have hBr6 := HBr5.out.kept hk6 (by have := HLt.out; omega)
  obtain ⟨vs, W7, hvl, hmk, hB7, hG7, hS7⟩ := make_blk (z := .int .u8 0) (s := 1) (b := 1) Tryz.underlying26 u8_info9 (by decide) (Pk.strB ts).size (by omega) w6
  obtain ⟨H7, hH7⟩ : ∃ H7, H7 = w6.heap.size := ⟨_, rfl⟩
  rw [← hH7] at hmk hB7
  have h57 : H5 < H7 := by have := hB6.lt; omega
  have hB67 := hB6.grew hG7
  have hB78 : Blk (W7.setCell ⟨H5, 3, none⟩ (.slice (some ⟨H7, 0, none⟩) (Pk.strB ts).size (Pk.strB ts).size)) H7 5 vs.toArray := hB7.kept ((Kept.refl (· = H5) W7).setCell (p := ⟨H5, 3, none⟩) (fun _ => rfl) _) (by omega)
  have hcp := Lib.run_copy_row_string (P := Tryz.prog) _ 26 9 3 5 H7 0 (Pk.strB ts).size (Pk.strB ts).size (Pk.strB ts) vs.toArray 5 Tryz.underlying26 (by kernel_rfl) hB78 (Nat.le_refl _) (by rw [List.size_toArray, hvl]; omega)
  obtain ⟨W8, hW8⟩ : ∃ W8, W8 = W7.setCell ⟨H5, 3, none⟩ (.slice (some ⟨H7, 0, none⟩) (Pk.strB ts).size (Pk.strB ts).size) := ⟨_, rfl⟩
  rw [← hW8] at hB78
  obtain ⟨W9, hW9⟩ : ∃ W9, W9 = W8.setRow H7 (vs.toArray.toList.take 0 ++ Lib.byteCells (Pk.strB ts).data.toList ++ vs.toArray.toList.drop (0 + (Pk.strB ts).size)).toArray := ⟨_, rfl⟩
  rw [← hW8, ← hW9] at hcp
  rw [hW8] at hcp
  rw [show goInt (((Pk.strB ts).size : Nat) : Int) = .int .i64 (((Pk.strB ts).size : Nat) : Int) from rfl] at hcp
  have hb8 : Blk W8 H5 63 #[.int .i64 no, .int .i64 na, .int .i64 nt, .slice (some ⟨H7, 0, none⟩) (Pk.strB ts).size (Pk.strB ts).size] := by
    have := hB67.put 3 (.slice (some ⟨H7, 0, none⟩) (Pk.strB ts).size (Pk.strB ts).size)
    rw [← hW8] at this
    simpa using this
  have hk78 : Kept (· = H5) W7 W8 := by rw [hW8]; exact (Kept.refl (· = H5) W7).setCell (p := ⟨H5, 3, none⟩) (fun _ => rfl) _
  have hk89 : Kept (· = H7) W8 W9 := by rw [hW9]; exact (Kept.refl (· = H7) W8).row9 (fun _ => rfl) _
  have hb9 := hb8.kept hk89 (by omega)
  have hBr9 := ((hBr6.grew hG7).kept hk78 (by have := HHlt.out; omega)).kept hk89 (by have := HHlt.out; omega)
  have hbytes : Blk W9 H7 5 (numCells .u8 ts).toArray := by
    have := hB78.row9 (vs.toArray.toList.take 0 ++ Lib.byteCells (Pk.strB ts).data.toList ++ vs.toArray.toList.drop (0 + (Pk.strB ts).size)).toArray
    rw [← hW9] at this
    have e : (vs.toArray.toList.take 0 ++ Lib.byteCells (Pk.strB ts).data.toList ++ vs.toArray.toList.drop (0 + (Pk.strB ts).size)) = numCells .u8 ts := by
      have h1 : Lib.byteCells (Pk.strB ts).data.toList = numCells .u8 ts := by
        conv => rhs; rw [← Mt.nats_of_str hts]
        unfold Lib.byteCells numCells Pk.natsOf
        rw [List.map_map]; rfl
      rw [h1, List.take_zero, List.nil_append, List.drop_eq_nil_of_le (by rw [List.toList_toArray, hvl]; omega), List.append_nil]
    rwa [e] at this
  have c3 := hB67.cell 3
  have f3 := hB67.frozen 3
  have d3 := hb8.cell 3
  rw [hW8] at d3
  have e0 := hb9.cell 0
  have e1 := hb9.cell 1
  have e2 := hb9.cell 2
  have e3 := hb9.cell 3
  have g0 := hBr9.cell 0
  have g1 := hBr9.cell 1
  have g2 := hBr9.cell 2
  have g3 := hBr9.cell 3
  have k0 := hBr9.frozen 0
  have k1 := hBr9.frozen 1
  have k2 := hBr9.frozen 2
  have k3 := hBr9.frozen 3
  simp only [List.getElem?_toArray, List.getElem?_cons_zero, List.getElem?_cons_succ] at c3 d3 e0 e1 e2 e3 g0 g1 g2 g3
  have HBr9 := hid hBr9
  have HBy := hid hbytes
  have hkf : Kept (· = g) w1 W9 := by
    have h1 : Kept (fun k => k = g ∨ k = H5 ∨ k = H7) w1 W9 := (((HK5.out.trans hk6).trans (.of_grew hG7)).mono (fun _ _ h => .inl h)).trans (((Kept.mono hk78 (fun _ _ h => .inr (.inl h))).trans (hk89.mono (fun _ _ h => .inr (.inr h)))))
    exact h1.mono (fun k hk h => by
      rcases h with h | h | h
      · exact h
      · have := HHlt.out; omega
      · have := HHlt.out; omega)
  have HKf := hid hkf
  have HK69 : Hid (Kept (fun k => k = H5 ∨ k = H7) w6 W9) := hid ((Kept.of_grew hG7).trans ((Kept.mono hk78 (fun _ _ h => .inl h)).trans (hk89.mono (fun _ _ h => .inr h))))
  have HR6 := hid hr6
  have HTs := hid hts
  have HSz := hid hsz
  have H57 := hid h57
  have HCl := hid hcl
  clear hr6 hk6 hts hsz hcl hB6 hBr6 hvl hB7 hG7 hS7 hH7 h57 hB67 hB78 hb8 hk78 hk89 hb9 hBr9 hbytes hkf hW9 hW8 HTin HIn HB5 HBr5 HT5 HR5
  go_wp2_with fail
  refine bodyPost_ret (v := .agg #[.int .i64 no, .int .i64 na, .int .i64 nt, .slice (some ⟨H7, 0, none⟩) (Pk.strB ts).size (Pk.strB ts).size]) (res_part Tryz.results33 _ H rfl _ _ _ _ _ (HBr9.out.put4 _ _ _ _)) rfl ?_
  have hk10 : Kept (· = H) W9 ((((W9.setCell ⟨H, 0, none⟩ (.int .i64 no)).setCell ⟨H, 1, none⟩ (.int .i64 na)).setCell ⟨H, 2, none⟩ (.int .i64 nt)).setCell ⟨H, 3, none⟩ (.slice (some ⟨H7, 0, none⟩) (Pk.strB ts).size (Pk.strB ts).size)) := kept4 (Kept.refl (· = H) W9) (fun _ => rfl) _ _ _ _
  rw [HSz.out] at hk10 ⊢
  have hlt := HLt.out
  have hhl := HHlt.out
  have h57 := H57.out
  refine ⟨⟨⟨no, na, nt, ts⟩, some ⟨H7, 0, none⟩, ts.length⟩, rfl, by rw [HR.out], ⟨?_, Nat.le_refl _, by have := HCl.out; simp only; omega, by have := HCl.out; simp only; omega⟩, ?_, ?_, ?_⟩
  · have hb := HBy.out.kept hk10 (by omega)
    refine ⟨HTs.out, fun hn => ⟨_, rfl, hb.lt, fun j hj => ?_⟩⟩
    rw [show (⟨H7, 0, none⟩ : Addr).add j = ⟨H7, j, none⟩ by unfold Addr.add; split <;> simp_all, hb.cell j, List.getElem?_toArray]
    unfold numCells
    rw [List.getElem?_map, List.getElem?_eq_getElem hj, List.getD_eq_getElem?_getD, List.getElem?_eq_getElem hj]
    rfl
  · intro ad e
    cases e
    have := HH.out
    have h8 := (HBy.out.kept hk10 (by omega)).lt
    exact ⟨show w.heap.size ≤ H7 by omega, h8⟩
  · rw [HR.out]
    exact HR6.out.kept (((HK69.out.mono (G := fun k => k = H5 ∨ k = H7 ∨ k = H) (fun _ _ h => by omega))).trans (hk10.mono (fun _ _ h => .inr (.inr h)))) (fun k h1 h2 h3 => by omega) hlo
  · exact (Kept.of_grew HG1.out).trans (HKf.out) |>.next hk10 (fun i hi e => by have := HH.out; omega)
theorem PvOk.kept9 {F : Nat → Prop} {w w' : World} {v : PV} (h : PvOk w v) (hk : Kept F w w') (hF : ∀ ad, v.A = some ad → ¬ F ad.block) : PvOk w' v := by
  have hn := (NumsAt.of_bytes h.1).kept hk (Nat.le_refl _) hF
  refine ⟨⟨h.1.1, fun hl => ?_⟩, h.2⟩
  obtain ⟨ad, e, hb, hc⟩ := hn hl
  exact ⟨ad, e, Nat.lt_of_lt_of_le hb hk.size, hc⟩
end Go.Proofs.YtjdgcgpidhljpaaGreatDoor

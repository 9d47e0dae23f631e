/- Texts of this claim in one: MtR Facts4 MtS MtT MtN MtO. -/
import Derived.Test.YtjdgcgpidhljpaaGreatDoorMtM
import Derived.Test.YtjdgcgpidhljpaaGreatDoorYFlB
import Derived.Lib.BufferWrite
import Derived.Test.YtjdgcgpidhljpaaGreatDoorYBase
import Derived.Test.YtjdgcgpidhljpaaGreatDoorMtH
section
/- Stage 9: readLit, readPart. -/
namespace Go.Proofs.YtjdgcgpidhljpaaGreatDoor
open Go.RowKit

theorem int_in {st : Pk.St} {a b : Int} (h0 : a ≤ 0) (h1 : 0 ≤ b) : a ≤ (Pk.int st a b).1 ∧ (Pk.int st a b).1 ≤ b := by
  rcases h : Pk.int st a b with ⟨n, r⟩
  cases r with
  | some r =>
    obtain ⟨_, h2, h3, _⟩ := Mt.int_some h
    exact ⟨h2, h3⟩
  | none =>
    unfold Pk.int at h
    split at h
    · cases h
    · cases h; exact ⟨h0, h1⟩
theorem text_in {st : Pk.St} {m : Nat} : (Pk.text st m).1.length ≤ m ∧ ∀ x ∈ (Pk.text st m).1, x ∈ Pk.rest st := by
  rcases h : Pk.text st m with ⟨s, r⟩
  cases r with
  | some r =>
    obtain ⟨h2, h3⟩ := Mt.text_some h
    refine ⟨by simp only; omega, fun x hx => ?_⟩
    subst h3
    simp [Pk.rest, Mt.encText, hx]
  | none =>
    unfold Pk.text at h
    split at h
    · cases h
    · cases h; exact ⟨by simp, by simp⟩
theorem litR_in (st : Pk.St) : (Mt.litR st).1.k ≤ 2 ∧ (Mt.litR st).1.s.size ≤ 1024 := by
  unfold Mt.litR
  simp only
  have h1 := int_in (st := st) (a := 0) (b := 2) (by decide) (by decide)
  have h2 := (text_in (st := (Pk.int st 0 2).2) (m := 1024)).1
  rw [Mt.strB_size]
  exact ⟨by omega, h2⟩
/-- What 'readLit' answers. -/
def RLitPost (w : World) (lo g : Nat) (r : Mt.Lit × Pk.St) (e : Ending) (w' : World) : Prop :=
  e = .returned (.agg #[.int .u8 ((r.1.k : Nat) : Int), .string r.1.s]) ∧ RdAt w' lo g r.2 ∧ Kept (· = g) w w'
set_option maxRecDepth 100000 in
set_option maxHeartbeats 1000000 in
theorem readLit_c (lo g : Nat) (st : Pk.St) (w : World) (h : RdAt w lo g st) (hlo : lo ≤ g) :
    Calls Tryz.prog 32 #[.pointer (some ⟨g, 0, none⟩)] w (RLitPost w lo g (Mt.litR st)) := by
  have hlt := h.lt
  have hg1 : Grew w (w.alloc (.cells #[.int .u8 0, .string ⟨#[]⟩] 62)) := (Grew.refl w).alloc _
  have hb := Blk.new w 62 #[.int .u8 0, .string ⟨#[]⟩]
  have HI := hid (rint_c lo g st 0 2 _ (h.grew hg1 hlo))
  have hk := int_in (st := st) (a := 0) (b := 2) (by decide) (by decide)
  have HR := hid (show Mt.litR st = (⟨(Pk.int st 0 2).1.toNat, Pk.strB (Pk.text (Pk.int st 0 2).2 1024).1⟩, (Pk.text (Pk.int st 0 2).2 1024).2) from rfl)
  generalize Mt.litR st = R at *
  generalize Pk.int st 0 2 = q at *
  obtain ⟨n, st1⟩ := q
  simp only at hk HR HI
  obtain ⟨k, rfl⟩ : ∃ k : Nat, n = k := ⟨n.toNat, by omega⟩
  rw [Int.toNat_natCast] at HR
  have hw : IntKind.u8.wrap ((k : Nat) : Int) = ((k : Nat) : Int) := by unfold IntKind.wrap; simp [IntKind.bits, IntKind.signed]; omega
  obtain ⟨H, hH⟩ : ∃ H, H = w.heap.size := ⟨_, rfl⟩
  have HH := hid hH
  rw [← hH] at hb hlt
  have HG1 := hid hg1
  have HB := hid hb
  have HLt := hid hlt
  clear h hk hg1 hb hH
  go_enter Tryz.func32, Tryz.ntmps32
  go_wp2_with fail
  rw [← HH.out]
  generalize w.alloc (.cells #[.int .u8 0, .string ⟨#[]⟩] 62) = w1 at *
  refine HI.out.mono ?_
  rintro e w2 ⟨rfl, hr2, hk2⟩
  simp only at hr2 ⊢
  have HK2 := hid hk2
  have HT := hid (rtext_c lo g st1 1024 w2 hr2)
  have HB2 := hid (HB.out.kept hk2 (by omega))
  clear hr2 hk2
  go_wp2_with fail
  refine HT.out.mono ?_
  rintro e w3 ⟨rfl, hr3, hk3⟩
  have HK3 := hid (HK2.out.trans hk3)
  have HB3 := HB2.out.kept hk3 (by omega)
  have HBk := hid HB3
  have HR3 := hid hr3
  have c0 := HB3.cell 0
  have c1 := HB3.cell 1
  have f0 := HB3.frozen 0
  have f1 := HB3.frozen 1
  simp only [List.getElem?_toArray, List.getElem?_cons_zero, List.getElem?_cons_succ] at c0 c1
  generalize Pk.text st1 1024 = T at *
  obtain ⟨ts, st2⟩ := T
  simp only at HR HR3
  clear hr3 hk3 HB3
  go_wp2_with fail
  have hb4 := (HBk.out.put 0 (.int .u8 ((k : Nat) : Int))).put 1 (.string (Pk.strB ts))
  have d0 := hb4.cell 0
  have d1 := hb4.cell 1
  simp only [List.setIfInBounds_toArray, List.set_cons_zero, List.set_cons_succ, List.getElem?_toArray, List.getElem?_cons_zero, List.getElem?_cons_succ] at d0 d1
  refine bodyPost_ret (v := .agg #[.int .u8 ((k : Nat) : Int), .string (Pk.strB ts)]) (by simp [results, Tryz.results32, go_sem, *]) rfl ?_
  have hkf : Kept (· = g) w ((w3.setCell ⟨H, 0, none⟩ (.int .u8 ((k : Nat) : Int))).setCell ⟨H, 1, none⟩ (.string (Pk.strB ts))) := (((Kept.of_grew HG1.out).trans HK3.out).setCell (p := ⟨H, 0, none⟩) (fun hp => by have := HH.out; simp only at hp; omega) _).setCell (p := ⟨H, 1, none⟩) (fun hp => by have := HH.out; simp only at hp; omega) _
  refine ⟨by rw [HR.out], ?_, hkf⟩
  rw [HR.out]
  have hks : Kept (· = H) w3 ((w3.setCell ⟨H, 0, none⟩ (.int .u8 ((k : Nat) : Int))).setCell ⟨H, 1, none⟩ (.string (Pk.strB ts))) := ((Kept.refl (· = H) w3).setCell (p := ⟨H, 0, none⟩) (fun _ => rfl) _).setCell (p := ⟨H, 1, none⟩) (fun _ => rfl) _
  exact HR3.out.kept hks (fun k h1 h2 e => by have := HLt.out; omega) hlo
theorem partR_in (st : Pk.St) : (-1 ≤ (Mt.partR st).1.outer ∧ (Mt.partR st).1.outer ≤ 63) ∧ (0 ≤ (Mt.partR st).1.args ∧ (Mt.partR st).1.args ≤ 16) ∧ (0 ≤ (Mt.partR st).1.temps ∧ (Mt.partR st).1.temps ≤ 16) ∧ (Mt.partR st).1.code.length ≤ 512 :=
  ⟨int_in (by decide) (by decide), int_in (by decide) (by decide), int_in (by decide) (by decide), text_in.1⟩
theorem u8_info9 : (Tryz.prog.info? 5).map (fun i => (i.zero, i.size, i.bytes)) = some (some (.int .u8 0), 1, 1) := by kernel_rfl
/-- What 'readPart' answers. -/
def RPartPost (w : World) (lo g : Nat) (r : Mt.Part × Pk.St) (e : Ending) (w' : World) : Prop :=
  ∃ v : PV, e = .returned (.agg (pvCells v)) ∧ v.p = r.1 ∧ PvOk w' v ∧ (∀ ad, v.A = some ad → w.heap.size ≤ ad.block ∧ ad.block < w'.heap.size) ∧ RdAt w' lo g r.2 ∧ Kept (· = g) w w'
set_option maxRecDepth 100000 in
/-- A result that is a part. -/
theorem res_part {fn : Func} {a : Tmp} (hr : fn.results = #[ResultVar.cell a 63]) (tmps : Array Value) (g : Nat) (ha : tmps.getD a undef = .pointer (some ⟨g, 0, none⟩)) (w : World) (c0 c1 c2 c3 : Value) (hb : Blk w g 63 #[c0, c1, c2, c3]) :
    (results fn tmps).run Tryz.prog w = .ok (.agg #[c0, c1, c2, c3]) w := by
  have y0 : w.cell? ⟨g, 0, none⟩ = some c0 := hb.cell 0
  have y1 : w.cell? ⟨g, 1, none⟩ = some c1 := hb.cell 1
  have y2 : w.cell? ⟨g, 2, none⟩ = some c2 := hb.cell 2
  have y3 : w.cell? ⟨g, 3, none⟩ = some c3 := hb.cell 3
  have ha' : tmps[a]?.getD undef = .pointer (some ⟨g, 0, none⟩) := by simpa using ha
  simp [results, go_sem, *]
theorem Blk.put4 {w : World} {g : Nat} {t : TypeId} {a0 a1 a2 a3 : Value} (h : Blk w g t #[a0, a1, a2, a3]) (c0 c1 c2 c3 : Value) :
    Blk ((((w.setCell ⟨g, 0, none⟩ c0).setCell ⟨g, 1, none⟩ c1).setCell ⟨g, 2, none⟩ c2).setCell ⟨g, 3, none⟩ c3) g t #[c0, c1, c2, c3] := by
  have := (((h.put 0 c0).put 1 c1).put 2 c2).put 3 c3
  simpa using this
theorem kept4 {F : Nat → Prop} {w w2 : World} {g : Nat} (h : Kept F w w2) (hg : g < w.heap.size → F g) (c0 c1 c2 c3 : Value) :
    Kept F w ((((w2.setCell ⟨g, 0, none⟩ c0).setCell ⟨g, 1, none⟩ c1).setCell ⟨g, 2, none⟩ c2).setCell ⟨g, 3, none⟩ c3) :=
  (((h.setCell (p := ⟨g, 0, none⟩) hg c0).setCell (p := ⟨g, 1, none⟩) hg c1).setCell (p := ⟨g, 2, none⟩) hg c2).setCell (p := ⟨g, 3, none⟩) hg c3
theorem Blk.row9 {w : World} {g : Nat} {t : TypeId} {old : Array Value} (h : Blk w g t old) (cs : Array Value) : Blk (w.setRow g cs) g t cs := setRow_heap w g old cs t _ h
theorem Kept.row9 {F : Nat → Prop} {a b : World} (h : Kept F a b) {g : Nat} (hg : g < a.heap.size → F g) (cs : Array Value) : Kept F a (b.setRow g cs) :=
  h.next (G := fun k => k = g) ⟨rfl, rfl, rfl, by simp, fun k _ hk => setRow_other b g k cs hk⟩ (fun i hi e => by subst e; exact hg hi)
set_option maxRecDepth 100000 in
set_option maxHeartbeats 4000000 in
theorem readPart_c (lo g : Nat) (st : Pk.St) (w : World) (h : RdAt w lo g st) (hlo : lo ≤ g) :
    Calls Tryz.prog 33 #[.pointer (some ⟨g, 0, none⟩)] w (RPartPost w lo g (Mt.partR st)) := by
  have hlt := h.lt
  have hg1 : Grew w (w.alloc (.cells #[.int .i64 0, .int .i64 0, .int .i64 0, .slice none 0 0] 63)) := (Grew.refl w).alloc _
  have hb := Blk.new w 63 #[.int .i64 0, .int .i64 0, .int .i64 0, .slice none 0 0]
  have HI := hid (rint_c lo g st (-1) 63 _ (h.grew hg1 hlo))
  have HR := hid (show Mt.partR st = (⟨(Pk.int st (-1) 63).1, (Pk.int (Pk.int st (-1) 63).2 0 16).1, (Pk.int (Pk.int (Pk.int st (-1) 63).2 0 16).2 0 16).1, (Pk.text (Pk.int (Pk.int (Pk.int st (-1) 63).2 0 16).2 0 16).2 512).1⟩, (Pk.text (Pk.int (Pk.int (Pk.int st (-1) 63).2 0 16).2 0 16).2 512).2) from rfl)
  have HIn := hid (partR_in st).2.2.2
  generalize Mt.partR st = R at *
  generalize Pk.int st (-1) 63 = q at *
  obtain ⟨no, st1⟩ := q
  simp only at HR HI
  have HI2 := hid (fun (w' : World) (h' : RdAt w' lo g st1) => rint_c lo g st1 0 16 w' h')
  generalize Pk.int st1 0 16 = q at *
  obtain ⟨na, st2⟩ := q
  simp only at HR HI2
  have HI3 := hid (fun (w' : World) (h' : RdAt w' lo g st2) => rint_c lo g st2 0 16 w' h')
  generalize Pk.int st2 0 16 = q at *
  obtain ⟨nt, st3⟩ := q
  simp only at HR HI3
  have HT := hid (fun (w' : World) (h' : RdAt w' lo g st3) => rtext_c lo g st3 512 w' h')
  have HTin := hid (text_in (st := st3) (m := 512)).2
  rw [show ((512 : Nat) : Int) = 512 from rfl] at HTin
  generalize Pk.text st3 512 = q at *
  obtain ⟨ts, st4⟩ := q
  simp only at HR HT HTin
  obtain ⟨H, hH⟩ : ∃ H, H = w.heap.size := ⟨_, rfl⟩
  have HH := hid hH
  rw [← hH] at hb hlt
  have HG1 := hid hg1
  have HB := hid hb
  have HLt := hid hlt
  clear h hg1 hb hH hlt
  go_enter Tryz.func33, Tryz.ntmps33
  go_wp2_with fail
  rw [← HH.out]
  generalize w.alloc (.cells #[.int .i64 0, .int .i64 0, .int .i64 0, .slice none 0 0] 63) = w1 at *
  refine HI.out.mono ?_
  rintro e w2 ⟨rfl, hr2, hk2⟩
  have HR2 := hid hr2
  have HK2 := hid hk2
  clear hr2 hk2 HI
  go_wp2_with fail
  refine (HI2.out _ HR2.out).mono ?_
  rintro e w3 ⟨rfl, hr3, hk3⟩
  have HR3 := hid hr3
  have HK3 := hid (HK2.out.trans hk3)
  clear hr3 hk3 HI2 HR2 HK2
  go_wp2_with fail
  refine (HI3.out _ HR3.out).mono ?_
  rintro e w4 ⟨rfl, hr4, hk4⟩
  have HK4 := hid (HK3.out.trans hk4)
  obtain ⟨H5, hH5⟩ : ∃ H5, H5 = w4.heap.size := ⟨_, rfl⟩
  have hb5 := Blk.new w4 63 #[.int .i64 no, .int .i64 na, .int .i64 nt, .slice none 0 0]
  have hg5 : Grew w4 (w4.alloc (.cells #[.int .i64 no, .int .i64 na, .int .i64 nt, .slice none 0 0] 63)) := (Grew.refl w4).alloc _
  have HR5 := hid (hr4.grew hg5 hlo)
  rw [← hH5] at hb5
  have HB5 := hid hb5
  have HK5 := hid (HK4.out.trans (.of_grew hg5))
  have HBr5 := hid ((HB.out.kept HK4.out (by have := HLt.out; omega)).grew hg5)
  have HHlt : Hid (H < H5 ∧ g < H5 ∧ w1.heap.size ≤ H5) := hid (by
    have h1 := (HB.out.kept HK4.out (by have := HLt.out; omega)).lt
    have h2 := hr4.lt
    have h3 := HK4.out.size
    omega)
  have HH5 := hid hH5
  have HT5 := hid (HT.out _ HR5.out)
  clear hr4 hk4 hb5 hg5 hH5 HI3 HR3 HK3 HT HB HK4
  go_wp2_with fail
  rw [← HH5.out]
  generalize w4.alloc (.cells #[.int .i64 no, .int .i64 na, .int .i64 nt, .slice none 0 0] 63) = w5 at *
  refine HT5.out.mono ?_
  rintro e w6 ⟨rfl, hr6, hk6⟩
  have hts : ∀ x ∈ ts, x < 256 := fun x hx => by
    obtain ⟨A, c, _, hA, _⟩ := HR5.out
    exact hA.1 x (HTin.out x hx)
  have hsz : (Pk.strB ts).size = ts.length := Mt.strB_size ts
  have hcl : ts.length ≤ 512 := by have := HIn.out; rw [HR.out] at this; exact this
  have hB6 := HB5.out.kept hk6 (by have := HHlt.out; omega)
  have hBr6 := HBr5.out.kept hk6 (by have := HLt.out; omega)
  obtain ⟨vs, W7, hvl, hmk, hB7, hG7, hS7⟩ := make_blk (z := .int .u8 0) (s := 1) (b := 1) Tryz.underlying26 u8_info9 (by decide) (Pk.strB ts).size (by omega) w6
  obtain ⟨H7, hH7⟩ : ∃ H7, H7 = w6.heap.size := ⟨_, rfl⟩
  rw [← hH7] at hmk hB7
  have h57 : H5 < H7 := by have := hB6.lt; omega
  have hB67 := hB6.grew hG7
  have hB78 : Blk (W7.setCell ⟨H5, 3, none⟩ (.slice (some ⟨H7, 0, none⟩) (Pk.strB ts).size (Pk.strB ts).size)) H7 5 vs.toArray := hB7.kept ((Kept.refl (· = H5) W7).setCell (p := ⟨H5, 3, none⟩) (fun _ => rfl) _) (by omega)
  have hcp := Lib.run_copy_row_string (P := Tryz.prog) _ 26 9 3 5 H7 0 (Pk.strB ts).size (Pk.strB ts).size (Pk.strB ts) vs.toArray 5 Tryz.underlying26 (by kernel_rfl) hB78 (Nat.le_refl _) (by rw [List.size_toArray, hvl]; omega)
  obtain ⟨W8, hW8⟩ : ∃ W8, W8 = W7.setCell ⟨H5, 3, none⟩ (.slice (some ⟨H7, 0, none⟩) (Pk.strB ts).size (Pk.strB ts).size) := ⟨_, rfl⟩
  rw [← hW8] at hB78
  obtain ⟨W9, hW9⟩ : ∃ W9, W9 = W8.setRow H7 (vs.toArray.toList.take 0 ++ Lib.byteCells (Pk.strB ts).data.toList ++ vs.toArray.toList.drop (0 + (Pk.strB ts).size)).toArray := ⟨_, rfl⟩
  rw [← hW8, ← hW9] at hcp
  rw [hW8] at hcp
  rw [show goInt (((Pk.strB ts).size : Nat) : Int) = .int .i64 (((Pk.strB ts).size : Nat) : Int) from rfl] at hcp
  have hb8 : Blk W8 H5 63 #[.int .i64 no, .int .i64 na, .int .i64 nt, .slice (some ⟨H7, 0, none⟩) (Pk.strB ts).size (Pk.strB ts).size] := by
    have := hB67.put 3 (.slice (some ⟨H7, 0, none⟩) (Pk.strB ts).size (Pk.strB ts).size)
    rw [← hW8] at this
    simpa using this
  have hk78 : Kept (· = H5) W7 W8 := by rw [hW8]; exact (Kept.refl (· = H5) W7).setCell (p := ⟨H5, 3, none⟩) (fun _ => rfl) _
  have hk89 : Kept (· = H7) W8 W9 := by rw [hW9]; exact (Kept.refl (· = H7) W8).row9 (fun _ => rfl) _
  have hb9 := hb8.kept hk89 (by omega)
  have hBr9 := ((hBr6.grew hG7).kept hk78 (by have := HHlt.out; omega)).kept hk89 (by have := HHlt.out; omega)
  have hbytes : Blk W9 H7 5 (numCells .u8 ts).toArray := by
    have := hB78.row9 (vs.toArray.toList.take 0 ++ Lib.byteCells (Pk.strB ts).data.toList ++ vs.toArray.toList.drop (0 + (Pk.strB ts).size)).toArray
    rw [← hW9] at this
    have e : (vs.toArray.toList.take 0 ++ Lib.byteCells (Pk.strB ts).data.toList ++ vs.toArray.toList.drop (0 + (Pk.strB ts).size)) = numCells .u8 ts := by
      have h1 : Lib.byteCells (Pk.strB ts).data.toList = numCells .u8 ts := by
        conv => rhs; rw [← Mt.nats_of_str hts]
        unfold Lib.byteCells numCells Pk.natsOf
        rw [List.map_map]; rfl
      rw [h1, List.take_zero, List.nil_append, List.drop_eq_nil_of_le (by rw [List.toList_toArray, hvl]; omega), List.append_nil]
    rwa [e] at this
  have c3 := hB67.cell 3
  have f3 := hB67.frozen 3
  have d3 := hb8.cell 3
  rw [hW8] at d3
  have e0 := hb9.cell 0
  have e1 := hb9.cell 1
  have e2 := hb9.cell 2
  have e3 := hb9.cell 3
  have g0 := hBr9.cell 0
  have g1 := hBr9.cell 1
  have g2 := hBr9.cell 2
  have g3 := hBr9.cell 3
  have k0 := hBr9.frozen 0
  have k1 := hBr9.frozen 1
  have k2 := hBr9.frozen 2
  have k3 := hBr9.frozen 3
  simp only [List.getElem?_toArray, List.getElem?_cons_zero, List.getElem?_cons_succ] at c3 d3 e0 e1 e2 e3 g0 g1 g2 g3
  have HBr9 := hid hBr9
  have HBy := hid hbytes
  have hkf : Kept (· = g) w1 W9 := by
    have h1 : Kept (fun k => k = g ∨ k = H5 ∨ k = H7) w1 W9 := (((HK5.out.trans hk6).trans (.of_grew hG7)).mono (fun _ _ h => .inl h)).trans (((Kept.mono hk78 (fun _ _ h => .inr (.inl h))).trans (hk89.mono (fun _ _ h => .inr (.inr h)))))
    exact h1.mono (fun k hk h => by
      rcases h with h | h | h
      · exact h
      · have := HHlt.out; omega
      · have := HHlt.out; omega)
  have HKf := hid hkf
  have HK69 : Hid (Kept (fun k => k = H5 ∨ k = H7) w6 W9) := hid ((Kept.of_grew hG7).trans ((Kept.mono hk78 (fun _ _ h => .inl h)).trans (hk89.mono (fun _ _ h => .inr h))))
  have HR6 := hid hr6
  have HTs := hid hts
  have HSz := hid hsz
  have H57 := hid h57
  have HCl := hid hcl
  clear hr6 hk6 hts hsz hcl hB6 hBr6 hvl hB7 hG7 hS7 hH7 h57 hB67 hB78 hb8 hk78 hk89 hb9 hBr9 hbytes hkf hW9 hW8 HTin HIn HB5 HBr5 HT5 HR5
  go_wp2_with fail
  refine bodyPost_ret (v := .agg #[.int .i64 no, .int .i64 na, .int .i64 nt, .slice (some ⟨H7, 0, none⟩) (Pk.strB ts).size (Pk.strB ts).size]) (res_part Tryz.results33 _ H rfl _ _ _ _ _ (HBr9.out.put4 _ _ _ _)) rfl ?_
  have hk10 : Kept (· = H) W9 ((((W9.setCell ⟨H, 0, none⟩ (.int .i64 no)).setCell ⟨H, 1, none⟩ (.int .i64 na)).setCell ⟨H, 2, none⟩ (.int .i64 nt)).setCell ⟨H, 3, none⟩ (.slice (some ⟨H7, 0, none⟩) (Pk.strB ts).size (Pk.strB ts).size)) := kept4 (Kept.refl (· = H) W9) (fun _ => rfl) _ _ _ _
  rw [HSz.out] at hk10 ⊢
  have hlt := HLt.out
  have hhl := HHlt.out
  have h57 := H57.out
  refine ⟨⟨⟨no, na, nt, ts⟩, some ⟨H7, 0, none⟩, ts.length⟩, rfl, by rw [HR.out], ⟨?_, Nat.le_refl _, by have := HCl.out; simp only; omega, by have := HCl.out; simp only; omega⟩, ?_, ?_, ?_⟩
  · have hb := HBy.out.kept hk10 (by omega)
    refine ⟨HTs.out, fun hn => ⟨_, rfl, hb.lt, fun j hj => ?_⟩⟩
    rw [show (⟨H7, 0, none⟩ : Addr).add j = ⟨H7, j, none⟩ by unfold Addr.add; split <;> simp_all, hb.cell j, List.getElem?_toArray]
    unfold numCells
    rw [List.getElem?_map, List.getElem?_eq_getElem hj, List.getD_eq_getElem?_getD, List.getElem?_eq_getElem hj]
    rfl
  · intro ad e
    cases e
    have := HH.out
    have h8 := (HBy.out.kept hk10 (by omega)).lt
    exact ⟨show w.heap.size ≤ H7 by omega, h8⟩
  · rw [HR.out]
    exact HR6.out.kept (((HK69.out.mono (G := fun k => k = H5 ∨ k = H7 ∨ k = H) (fun _ _ h => by omega))).trans (hk10.mono (fun _ _ h => .inr (.inr h)))) (fun k h1 h2 h3 => by omega) hlo
  · exact (Kept.of_grew HG1.out).trans (HKf.out) |>.next hk10 (fun i hi e => by have := HH.out; omega)
theorem PvOk.kept9 {F : Nat → Prop} {w w' : World} {v : PV} (h : PvOk w v) (hk : Kept F w w') (hF : ∀ ad, v.A = some ad → ¬ F ad.block) : PvOk w' v := by
  have hn := (NumsAt.of_bytes h.1).kept hk (Nat.le_refl _) hF
  refine ⟨⟨h.1.1, fun hl => ?_⟩, h.2⟩
  obtain ⟨ad, e, hb, hc⟩ := hn hl
  exact ⟨ad, e, Nat.lt_of_lt_of_le hb hk.size, hc⟩
end Go.Proofs.YtjdgcgpidhljpaaGreatDoor
end

section
/- A region that draws its order, walked once for all its orders, where several operations change objects of the call's own: an invariant over the operations that are done, and what each operation may do. No program is named here. -/
namespace Go.Proofs.YtjdgcgpidhljpaaGreatDoor
open Go.RowKit

/-- Operation i is done, too. -/
def updF (f : Nat → Bool) (i : Nat) : Nat → Bool := fun j => if j = i then true else f j
def StepOk4 (P : Program) (Q : Exit → Act → World → Prop) (D : List Tmp) (Al : List Nat) (φ : Nat → Value → World → Prop) (R0 : World → World → Prop) (R : Nat → World → World → Prop) (J : (Nat → Bool) → World → Prop) (a0 : Act) (w0 : World) (i : Nat) (o : Oper) : Prop :=
  ∀ a w f, R0 w0 w → J f w → f i = false → (∀ e ∈ o.after, Region.binds .any e = true → f e.on = true) → SameBut D a0 a → Ahead D φ a w o.after.toList →
    if wantedD D o a = true then o.wp P a w (Gives3 (R i) (φ i) (J (updF f i)) (Al.contains i) o.dst a w) Q else φ i undef w ∧ J (updF f i) w ∧ Al.contains i = false

section
variable {P : Program} {ops : Array Oper} {Q : Exit → Act → World → Prop} {D : List Tmp} {Al : List Nat} {φ : Nat → Value → World → Prop} {R0 : World → World → Prop} {R : Nat → World → World → Prop} {J : (Nat → Bool) → World → Prop} {a0 : Act} {w0 : World} {dep n : Nat}

structure FactsAt4 (ops : Array Oper) (D : List Tmp) (Al : List Nat) (φ : Nat → Value → World → Prop) (R0 : World → World → Prop) (R : Nat → World → World → Prop) (J : (Nat → Bool) → World → Prop) (a0 : Act) (w0 : World) (n : Nat) (listed : Array Bool) (a : Act) (w : World) : Prop where
  rel : R0 w0 w
  same : SameBut D a0 a
  fact : ∀ i, i < n → listed.getD i false = true → φ i (slotOf D i a) w
  inv : J (fun j => listed.getD j false) w
  made : ∀ i, i < n → Al.contains i = true → listed.getD i false = true → IsNew (slotOf D i a) w0 w
  parted : ∀ i j, i < n → j < n → i ≠ j → Al.contains i = true → Al.contains j = true → listed.getD i false = true → listed.getD j false = true → slotOf D i a ≠ slotOf D j a

theorem FactsAt4.step {listed : Array Bool} {a : Act} {w w' : World} {i : Nat} {v : Value} {d : Tmp} (hR : May R0) (hRi : ∀ i w w', R i w w' → R0 w w') (hO : FactsOk3 ops dep n a0.tmps.size D) (hm : ∀ i j v w w', i < n → j < n → i ≠ j → reachB ops dep i j = false → φ i v w → R j w w' → φ i v w')
    (h : FactsAt4 ops D Al φ R0 R J a0 w0 n listed a w) (hi : i < n) (hsz : i < listed.size) (hd : D.getD i 0 = d) (hdN : d < a0.tmps.size) (hdD : d ∈ D) (hb : ∀ j, j < n → j ≠ i → listed.getD j false = true → reachB ops dep j i = false) (hg : R i w w') (hv : φ i v w') (hJ : J (updF (fun j => listed.getD j false) i) w') (hn : Al.contains i = true → IsNew v w w') : FactsAt4 ops D Al φ R0 R J a0 w0 n (listed.setIfInBounds i true) (a.put (some d) v) w' := by
  have same_i : slotOf D i (a.put (some d) v) = v := by
    unfold slotOf Act.eval
    rw [hd]
    simp [Act.put, h.same.size, hdN]
  have same_j : ∀ j, j < n → i ≠ j → slotOf D j (a.put (some d) v) = slotOf D j a := fun j hj hij => by
    have hne : d ≠ D.getD j 0 := by rw [← hd]; exact hO.apart i j hi hj hij
    unfold slotOf Act.eval
    generalize D.getD j 0 = dj at *
    simp [Act.put, Array.getElem?_setIfInBounds_ne hne]
  have new_j : ∀ j, j < n → Al.contains j = true → listed.getD j false = true → IsNew (slotOf D j a) w0 w' := fun j hj hA hl => by
    obtain ⟨g, h1, h2, h3⟩ := h.made j hj hA hl
    exact ⟨g, h1, h2, Nat.lt_of_lt_of_le h3 (hR.size (hRi i _ _ hg))⟩
  have apart_j : ∀ j, j < n → Al.contains i = true → Al.contains j = true → listed.getD j false = true → v ≠ slotOf D j a := fun j hj hA hB hl e => by
    obtain ⟨g, h1, h2, h3⟩ := h.made j hj hB hl
    obtain ⟨g', k1, k2, k3⟩ := hn hA
    rw [← e, k1] at h1
    simp only [Value.pointer.injEq, Option.some.injEq, Addr.mk.injEq] at h1
    omega
  refine ⟨hR.trans h.rel (hRi i _ _ hg), ⟨h.same.defers, ?_, fun t ht => ?_⟩, fun j hj hl => ?_, ?_, fun j hj hA hl => ?_, fun j k hj hk hjk hA hB hl hl2 => ?_⟩
  · simp [Act.put, h.same.size]
  · have hne : d ≠ t := by rintro rfl; exact ht hdD
    simp only [Act.put]
    rw [Array.getElem?_setIfInBounds_ne hne]
    exact h.same.rest t ht
  · by_cases hij : i = j
    · subst hij
      rw [same_i]; exact hv
    · rw [same_j j hj hij]
      have hl2 : listed.getD j false = true := by rwa [getD_set_ne false hij] at hl
      exact hm j i _ _ _ hj hi (fun e => hij e.symm) (hb j hj (fun e => hij e.symm) hl2) (h.fact j hj hl2) hg
  · have e : (fun j => (listed.setIfInBounds i true).getD j false) = updF (fun j => listed.getD j false) i := by
      funext j
      unfold updF
      by_cases hij : j = i
      · subst hij
        rw [if_pos rfl]
        simp [hsz]
      · rw [if_neg hij, getD_set_ne false (fun e => hij e.symm)]
    rw [e]
    exact hJ
  · by_cases hij : i = j
    · subst hij
      rw [same_i]
      obtain ⟨g, k1, k2, k3⟩ := hn hA
      exact ⟨g, k1, Nat.le_trans (hR.size h.rel) k2, k3⟩
    · rw [same_j j hj hij]
      exact new_j j hj hA (by rwa [getD_set_ne false hij] at hl)
  · by_cases hij : i = j
    · subst hij
      rw [same_i, same_j k hk hjk]
      exact apart_j k hk hA hB (by rwa [getD_set_ne false hjk] at hl2)
    · rw [same_j j hj hij]
      by_cases hik : i = k
      · subst hik
        rw [same_i]
        exact fun e => apart_j j hj hB hA (by rwa [getD_set_ne false hij] at hl) e.symm
      · rw [same_j k hk hik]
        exact h.parted j k hj hk hjk hA hB (by rwa [getD_set_ne false hij] at hl) (by rwa [getD_set_ne false hik] at hl2)

theorem wpAny_facts4 (hR : May R0) (hRi : ∀ i w w', R i w w' → R0 w w') (hRr : ∀ i w, R i w w) (hO : FactsOk3 ops dep n a0.tmps.size D) (hm : ∀ i j v w w', i < n → j < n → i ≠ j → reachB ops dep i j = false → φ i v w → R j w w' → φ i v w')
    (hstep : ∀ i o, i < n → ops[i]? = some o → StepOk4 P Q D Al φ R0 R J a0 w0 i o)
    (hend : ∀ a w, R0 w0 w → SameBut D a0 a → (∀ i, i < n → φ i (slotOf D i a) w) → J (fun j => decide (j < n)) w → (∀ i j, i < n → j < n → i ≠ j → Al.contains i = true → Al.contains j = true → slotOf D i a ≠ slotOf D j a) → wpList P ops Q (ops.toList.drop n) a w) :
    ∀ (k : Nat) (listed : Array Bool) (a : Act) (w : World), listed.size = ops.size → (∀ j, n ≤ j → j < ops.size → listed.getD j true = false) → leftN listed n = k → Closed ops listed →
      FactsAt4 ops D Al φ R0 R J a0 w0 n listed a w → wpAny P .any ops Q (k + (ops.size - n)) listed a w := by
  intro k
  induction k with
  | zero =>
    intro listed a w hs ht hk _ h
    have hall := leftN_zero n hk
    have e : listed = ((List.range ops.size).map fun i => decide (i < n)).toArray := by
      apply Array.ext (by simp [hs])
      intro j h1 h2
      rcases Nat.lt_or_ge j n with hlt | hge
      · have := hall j hlt
        simp [h1] at this
        simp [this, hlt]
      · have := ht j hge (by omega)
        simp [h1] at this
        simp [this]; omega
    have hl : (ops.toList.drop n).length = ops.size - n := by simp
    rw [Nat.zero_add, ← hl]
    refine wpAny_of_seq (ops.toList.drop n) n listed a w (fun j => by simp) ?_ ?_
    · rw [hl, e]; exact hO.seq
    · have hl : ∀ i, i < n → listed.getD i false = true := fun i hi => by
        rw [← getD_flip (by have := hO.le; omega)]
        exact hall i hi
      refine hend a w h.rel h.same (fun i hi => h.fact i hi (hl i hi)) ?_ (fun i j hi hj hij hA hB => h.parted i j hi hj hij hA hB (hl i hi) (hl j hj))
      have hJ := h.inv
      have ef : (fun j => listed.getD j false) = fun j => decide (j < n) := by
        funext j
        rcases Nat.lt_or_ge j n with hlt | hge
        · rw [hl j hlt, decide_eq_true hlt]
        · rw [decide_eq_false (Nat.not_lt.2 hge)]
          rcases Nat.lt_or_ge j ops.size with h1 | h1
          · rw [← getD_flip (by omega)]; exact ht j hge h1
          · simp [show ¬ j < listed.size by omega]
      rw [ef] at hJ
      exact hJ
  | succ k ih =>
    intro listed a w hs ht hk hcl h
    obtain ⟨i0, hi0, hl0, hless⟩ := leftN_least n (by omega : 0 < leftN listed n)
    have hfalse : listed.getD i0 false = false := by rw [← getD_flip (by have := hO.le; omega)]; exact hl0
    rw [Nat.succ_add]
    refine ⟨fun hr => ?_, fun i hi => ?_⟩
    · exfalso
      obtain ⟨o, d, ho, _⟩ := hO.dst i0 hi0
      have : i0 ∈ Region.ready .any ops listed := mem_ready.2 ⟨hl0, o, ho, fun e he hb => by
        have hlt := hO.back i0 o hi0 ho e he hb
        rw [← getD_flip (by have := hO.le; omega)]
        exact hless _ hlt⟩
      rw [hr] at this
      cases this
    · obtain ⟨hli, o, ho, hdep⟩ := mem_ready.1 hi
      have hin : i < n := by
        rcases Nat.lt_or_ge i n with h1 | h1
        · exact h1
        · exfalso
          have := hcl.reach dep i i0 o ho hdep (hO.phase i o h1 ho i0 hi0)
          rw [hfalse] at this
          cases this
      obtain ⟨o', d, ho', hd, hdd, hdN, hdD⟩ := hO.dst i hin
      obtain rfl : o = o' := Option.some.inj (ho.symm.trans ho')
      have hA : Ahead D φ a w o.after.toList := ahead_of _ (fun e he hb => by
        have he' : e ∈ o.after := by simpa using he
        exact h.fact e.on (Nat.lt_trans (hO.back i o hin ho e he' hb) hin) (hdep e he' hb))
      have hisz : i < listed.size := by have := hO.le; omega
      have hif : listed.getD i false = false := by rw [← getD_flip hisz]; exact hli
      have hst := hstep i o hin ho a w (fun j => listed.getD j false) h.rel h.inv hif (fun e he hb => hdep e he hb) h.same hA
      have hbk : ∀ j, j < n → j ≠ i → listed.getD j false = true → reachB ops dep j i = false := fun j hj _ hlj => by
        cases hr : reachB ops dep j i
        · rfl
        · exfalso
          obtain ⟨oj, _, hoj, _⟩ := hO.dst j hj
          have := hcl.reach dep j i oj hoj (fun e he hb => hcl j oj hlj hoj e he hb) hr
          rw [hif] at this
          cases this
      have hs' : (listed.setIfInBounds i true).size = ops.size := by simpa using hs
      have ht' : ∀ j, n ≤ j → j < ops.size → (listed.setIfInBounds i true).getD j true = false := fun j h1 h2 => by
        rw [getD_set_ne true (by omega)]; exact ht j h1 h2
      have hcl' : Closed ops (listed.setIfInBounds i true) := fun j oj hj hoj e he hb => by
        by_cases hij : i = j
        · subst hij
          obtain rfl : o = oj := Option.some.inj (ho.symm.trans hoj)
          exact getD_set_true (hdep e he hb)
        · rw [getD_set_ne false hij] at hj
          exact getD_set_true (hcl j oj hj hoj e he hb)
      have hk' : leftN (listed.setIfInBounds i true) n = k := by
        have := leftN_set hli n hin
        omega
      have hwd : wantedD D o a = Region.wanted o (yielded ops a.tmps) := by
        unfold wantedD Region.wanted
        cases hgd : o.guard with
        | none => rfl
        | some g =>
          obtain ⟨g, b⟩ := g
          obtain ⟨og, dg, hog, hdg, hDg, hNg, _⟩ := hO.dst g (hO.guard i o _ hin ho hgd)
          have hsz : dg < a.tmps.size := by rw [h.same.size]; exact hNg
          simp only [yielded, hog, hdg, slotOf, Act.eval, hDg, Option.bind_some]
          rw [Array.getElem?_eq_getElem hsz]
          have : a.tmps.getD dg undef = a.tmps[dg] := by simp [hsz]
          rw [this]
          unfold isBool
          cases a.tmps[dg] <;> simp
      rw [hwd] at hst
      unfold wpOp
      simp only [ho]
      split
      · rename_i hw
        rw [if_pos hw] at hst
        refine .inl (Oper.wp_mono (fun a' w' h' => ?_) hst)
        obtain ⟨v, rfl, hg, hv, hJ, hn⟩ := h'
        rw [hd]
        exact ih _ _ _ hs' ht' hk' hcl' (h.step hR hRi hO hm hin hisz hdd hdN hdD hbk hg hv hJ hn)
      · rename_i hw
        rw [if_neg hw] at hst
        rw [hd]
        exact ih _ _ _ hs' ht' hk' hcl' (h.step hR hRi hO hm hin hisz hdd hdN hdD hbk (hRr i _) hst.1 hst.2.1 (fun h => by rw [hst.2.2] at h; cases h))

def StepAll4 (P : Program) (Q : Exit → Act → World → Prop) (D : List Tmp) (Al : List Nat) (φ : Nat → Value → World → Prop) (R0 : World → World → Prop) (R : Nat → World → World → Prop) (J : (Nat → Bool) → World → Prop) (a0 : Act) (w0 : World) : Nat → List Oper → Prop
  | _, [] => True
  | k, o :: r => StepOk4 P Q D Al φ R0 R J a0 w0 k o ∧ StepAll4 P Q D Al φ R0 R J a0 w0 (k + 1) r
theorem StepAll4.get : ∀ (l : List Oper) (k : Nat), StepAll4 P Q D Al φ R0 R J a0 w0 k l → ∀ j o, l[j]? = some o → StepOk4 P Q D Al φ R0 R J a0 w0 (k + j) o
  | [], _, _, j, o, h => by simp at h
  | x :: r, k, hs, 0, o, h => by
    obtain rfl : x = o := by simpa using h
    exact hs.1
  | x :: r, k, hs, j + 1, o, h => by
    have := StepAll4.get r (k + 1) hs.2 j o (by simpa using h)
    rwa [show k + 1 + j = k + (j + 1) by omega] at this
/-- One walk for all orders. 'dep': how many steps the form looks on to see that the last operations wait for all others. -/
theorem wp_region_facts4 {id : Nat} (w : World) (dep n : Nat) (D : List Tmp) (Al : List Nat) (φ : Nat → Value → World → Prop) (R0 : World → World → Prop) (R : Nat → World → World → Prop) (J : (Nat → Bool) → World → Prop) (hR : May R0) (hRi : ∀ i w w', R i w w' → R0 w w') (hRr : ∀ i w, R i w w) (hf : P.follows .mixedOrders = true) (hB : factsB3 ops dep n a0.tmps.size D = true) (hg : R0 w0 w.drew) (hJ : J (fun _ => false) w.drew) (hm : ∀ i j v w w', i < n → j < n → i ≠ j → reachB ops dep i j = false → φ i v w → R j w w' → φ i v w')
    (hstep : StepAll4 P Q D Al φ R0 R J a0 w0 0 (ops.toList.take n))
    (hend : ∀ a w, R0 w0 w → SameBut D a0 a → (∀ i, i < n → φ i (slotOf D i a) w) → J (fun j => decide (j < n)) w → (∀ i j, i < n → j < n → i ≠ j → Al.contains i = true → Al.contains j = true → slotOf D i a ≠ slotOf D j a) → wpList P ops Q (ops.toList.drop n) a w) : (Code.region id ops true).wp P Q a0 w := by
  have hO := factsB3_ok hB
  refine wp_region_any hf ?_
  have hstep' : ∀ i o, i < n → ops[i]? = some o → StepOk4 P Q D Al φ R0 R J a0 w0 i o := fun i o hi ho => by
    have := StepAll4.get _ 0 hstep i o (by rw [List.getElem?_take_of_lt hi]; simpa using ho)
    rwa [Nat.zero_add] at this
  have h := wpAny_facts4 hR hRi hRr hO hm hstep' hend n (Array.replicate ops.size false) a0 w.drew (by simp) (fun j _ h2 => by simp [h2]) (leftN_none _ _ hO.le) (fun j o hj ho => by
    simp [show j < ops.size from (Array.getElem?_eq_some_iff.1 ho).1] at hj) ⟨hg, ⟨rfl, rfl, fun _ _ => rfl⟩, fun i hi hl => by
    simp [show i < ops.size by have := hO.le; omega] at hl, by
    have e : (fun j => (Array.replicate ops.size false).getD j false) = fun _ => false := by
      funext j
      by_cases h : j < ops.size <;> simp [h]
    rw [e]; exact hJ, fun i hi _ hl => by
    simp [show i < ops.size by have := hO.le; omega] at hl, fun i j hi _ _ _ _ hl _ => by
    simp [show i < ops.size by have := hO.le; omega] at hl⟩
  have e : n + (ops.size - n) = ops.size := by have := hO.le; omega
  rw [e] at h
  exact h
end
end Go.Proofs.YtjdgcgpidhljpaaGreatDoor
end

section
/- Stage 9: Decode, first part: what a drawn region may do that reads an element and appends it to a field of a struct. -/
namespace Go.Proofs.YtjdgcgpidhljpaaGreatDoor
open Go.RowKit

theorem flat_at {α : Type} (f : α → List Value) (k : Nat) (hk : ∀ x, (f x).length = k) : ∀ (l : List α) (i : Nat) (x : α), l[i]? = some x → ∀ j u, (f x)[j]? = some u → (l.flatMap f)[i * k + j]? = some u
  | [], i, x, hx, _, _, _ => by simp at hx
  | y :: r, 0, x, hx, j, u, hu => by
    obtain rfl : y = x := by simpa using hx
    rw [List.flatMap_cons, Nat.zero_mul, Nat.zero_add, List.getElem?_append_left (List.getElem?_eq_some_iff.1 hu).1]
    exact hu
  | y :: r, i + 1, x, hx, j, u, hu => by
    have h2 := flat_at f k hk r i x (by simpa using hx) j u hu
    rw [List.flatMap_cons, List.getElem?_append_right (by rw [hk]; rw [Nat.add_mul]; omega), hk, show (i + 1) * k + j - k = i * k + j by rw [Nat.add_mul]; omega]
    exact h2
def litF (x : Mt.Lit) : List Value := [.int .u8 ((x.k : Nat) : Int), .string x.s]
def pvF (v : PV) : List Value := [.int .i64 v.p.outer, .int .i64 v.p.args, .int .i64 v.p.temps, .slice v.A v.p.code.length v.c]
theorem row_lits {w : World} {B : Nat} {t : TypeId} {A : Option Addr} {c n : Nat} {l : List Mt.Lit} (hn : n = l.length) (h : Row w B t 2 A n c (l.flatMap litF)) (hl : ∀ x ∈ l, x.k < 256 ∧ x.s.size ≤ 2000) : LitsAt w A l := by
  refine ⟨hl, fun h0 => ?_⟩
  rcases h.cases with ⟨_, _, _, ⟨_, h1, _⟩ | ⟨g, rfl, _, hlt, hc, _⟩⟩
  · omega
  · refine ⟨_, rfl, hlt, fun i x hx j u hu => ?_⟩
    rw [show (⟨g, 0, none⟩ : Addr).add (i * 2 + j) = ⟨g, i * 2 + j, none⟩ by unfold Addr.add; split <;> simp_all]
    exact hc _ _ (flat_at litF 2 (fun _ => rfl) l i x hx j u (by simpa [litF, litCells2] using hu))
theorem row_parts {w : World} {B : Nat} {t : TypeId} {A : Option Addr} {c n : Nat} {l : List PV} (hn : n = l.length) (h : Row w B t 4 A n c (l.flatMap pvF)) (hl : ∀ x ∈ l, PvOk w x) : PartsAt w A l := by
  refine ⟨hl, fun h0 => ?_⟩
  rcases h.cases with ⟨_, _, _, ⟨_, h1, _⟩ | ⟨g, rfl, _, hlt, hc, _⟩⟩
  · omega
  · refine ⟨_, rfl, hlt, fun i x hx j u hu => ?_⟩
    rw [show (⟨g, 0, none⟩ : Addr).add (i * 4 + j) = ⟨g, i * 4 + j, none⟩ by unfold Addr.add; split <;> simp_all]
    exact hc _ _ (flat_at pvF 4 (fun _ => rfl) l i x hx j u (by simpa [pvF, pvCells] using hu))
section
variable {α : Type}
/-- What each operation gives. -/
def DF (w0 : World) (M g k : Nat) (A : Option Addr) (i c : Nat) (e : TypeId) (s : Nat) (ys : List Value) (enc : α → List Value) (Good : α → World → Prop) (Cl : α → Nat → Prop) (j : Nat) (v : Value) (w : World) : Prop := match j with
  | 0 => v = .pointer (some ⟨M, k, none⟩)
  | 1 => v = .slice A i c
  | 2 => v = .pointer (some ⟨g, 0, none⟩)
  | 3 => ∃ x, Good x w ∧ v = .agg (enc x).toArray
  | 4 => ∃ x H, Good x w ∧ v = .slice (some ⟨H, 0, none⟩) 1 1 ∧ Blk w H e (enc x).toArray ∧ M < H ∧ ¬ AtRow A H
  | 5 => ∃ x A' c', Good x w ∧ v = .slice A' (i + 1) c' ∧ Row w (M + 1) e s A' (i + 1) c' (ys ++ enc x) ∧ RowTo w0 A A' ∧ ∀ q, Cl x q → ¬ AtRow A' q
  | _ => v = .pointer (some ⟨M, k, none⟩)
def DR (g : Nat) (A : Option Addr) (j : Nat) : World → World → Prop := if j = 3 then Kept (· = g) else if j = 5 then Kept (AtRow A) else Kept (fun _ => False)
def DR0 (g : Nat) (A : Option Addr) : World → World → Prop := Kept (fun k => k = g ∨ AtRow A k)
/-- The reader, the row as long as nothing was appended, the struct. -/
def DJ (lo g M : Nat) (st st' : Pk.St) (A : Option Addr) (i c : Nat) (e : TypeId) (s : Nat) (ys : List Value) (tM : TypeId) (bx : Array Value) (f : Nat → Bool) (w : World) : Prop :=
  RdAt w lo g (if f 3 = true then st' else st) ∧ (f 5 = false → Row w (M + 1) e s A i c ys) ∧ Blk w M tM bx
theorem DR.zero {g : Nat} {A : Option Addr} (j : Nat) (w w' : World) (h : DR g A j w w') : DR0 g A w w' := by
  unfold DR at h
  split at h
  · exact h.mono (fun _ _ h => .inl h)
  · split at h
    · exact h.mono (fun _ _ h => .inr h)
    · exact h.mono (fun _ _ h => h.elim)
theorem DR.refl {g : Nat} {A : Option Addr} (j : Nat) (w : World) : DR g A j w w := by
  unfold DR
  split
  · exact Kept.refl _ _
  · split <;> exact Kept.refl _ _
theorem DF.stable {w0 : World} {M g k : Nat} {A : Option Addr} {i c : Nat} {e : TypeId} {s : Nat} {ys : List Value} {enc : α → List Value} {Good : α → World → Prop} {Cl : α → Nat → Prop} (hgM : g < M) (hG : ∀ x w w', Good x w → DR0 g A w w' → Good x w')
    (a b : Nat) (v : Value) (w w' : World) (hab : a ≠ b) (h : DF w0 M g k A i c e s ys enc Good Cl a v w) (hr : DR g A b w w') : DF w0 M g k A i c e s ys enc Good Cl a v w' := by
  have h0 := DR.zero b w w' hr
  unfold DF at h ⊢
  split at h
  · exact h
  · exact h
  · exact h
  · obtain ⟨x, h1, h2⟩ := h
    exact ⟨x, hG x _ _ h1 h0, h2⟩
  · obtain ⟨x, H, h1, h2, h3, h4, h5⟩ := h
    exact ⟨x, H, hG x _ _ h1 h0, h2, h3.kept h0 (fun h => by rcases h with h | h; omega; exact h5 h), h4, h5⟩
  · obtain ⟨x, A', c', h1, h2, h3, h4⟩ := h
    refine ⟨x, A', c', hG x _ _ h1 h0, h2, ?_, h4⟩
    unfold DR at hr
    split at hr
    · exact h3.kept hr (fun q hq e => by have := Row.at_base h3 q ⟨_, hq, rfl⟩; omega)
    · split at hr
      · omega
      · exact h3.kept hr (fun q hq e => e)
  · exact h
theorem DJ.pure {lo g M : Nat} {st st' : Pk.St} {A : Option Addr} {i c : Nat} {e : TypeId} {s : Nat} {ys : List Value} {tM : TypeId} {bx : Array Value} {f : Nat → Bool} {w : World} (h : DJ lo g M st st' A i c e s ys tM bx f w) (j : Nat) (h3 : j ≠ 3) : DJ lo g M st st' A i c e s ys tM bx (updF f j) w := by
  refine ⟨?_, fun h5 => h.2.1 ?_, h.2.2⟩
  · rw [show updF f j 3 = f 3 by unfold updF; rw [if_neg (fun e => h3 e.symm)]]
    exact h.1
  · unfold updF at h5
    split at h5
    · cases h5
    · exact h5
theorem DJ.grew {lo g M : Nat} {st st' : Pk.St} {A : Option Addr} {i c : Nat} {e : TypeId} {s : Nat} {ys : List Value} {tM : TypeId} {bx : Array Value} {f : Nat → Bool} {w w' : World} (h : DJ lo g M st st' A i c e s ys tM bx f w) (hg : Grew w w') (hlo : lo ≤ g) : DJ lo g M st st' A i c e s ys tM bx f w' :=
  ⟨h.1.grew hg hlo, fun h5 => (h.2.1 h5).grew hg, h.2.2.grew hg⟩
/-- The call that reads. -/
theorem DJ.read {lo g M : Nat} {st st' : Pk.St} {A : Option Addr} {i c : Nat} {e : TypeId} {s : Nat} {ys : List Value} {tM : TypeId} {bx : Array Value} {f : Nat → Bool} {w w' : World} (h : DJ lo g M st st' A i c e s ys tM bx f w) (hr : RdAt w' lo g st') (hk : Kept (· = g) w w') (hgM : g < M) (hA : ∀ k, AtRow A k → M < k) : DJ lo g M st st' A i c e s ys tM bx (updF f 3) w' := by
  refine ⟨by rw [show updF f 3 3 = true from rfl, if_pos rfl]; exact hr, fun h5 => ?_, h.2.2.kept hk (by omega)⟩
  exact (h.2.1 h5).kept hk (fun q hq e => by have := hA q ⟨_, hq, rfl⟩; omega)
/-- The append. -/
theorem DJ.app {lo g M : Nat} {st st' : Pk.St} {A : Option Addr} {i c : Nat} {e : TypeId} {s : Nat} {ys : List Value} {tM : TypeId} {bx : Array Value} {f : Nat → Bool} {w w' : World} (h : DJ lo g M st st' A i c e s ys tM bx f w) (hk : Kept (AtRow A) w w') (hlo : lo ≤ g) (hgM : g < M) (hA : ∀ k, AtRow A k → M < k) : DJ lo g M st st' A i c e s ys tM bx (updF f 5) w' := by
  refine ⟨?_, fun (h5 : updF f 5 5 = false) => (by cases h5), h.2.2.kept hk (fun h => by have := hA _ h; omega)⟩
  rw [show updF f 5 3 = f 3 from rfl]
  exact h.1.kept hk (fun q _ h2 h3 => by have := hA _ h3; omega) hlo
theorem may_DR0 (g : Nat) (A : Option Addr) : May (DR0 g A) := May.kept _
end
end Go.Proofs.YtjdgcgpidhljpaaGreatDoor
end

section
/- Stage 9: Decode. -/
namespace Go.Proofs.YtjdgcgpidhljpaaGreatDoor
open Go.RowKit

theorem lit_info9 : (Tryz.prog.info? 62).map (fun i => (i.zero, i.size, i.bytes)) = some (some (.agg #[.int .u8 0, .string ⟨#[]⟩]), 2, 24) := by kernel_rfl
theorem part_info9 : (Tryz.prog.info? 63).map (fun i => (i.zero, i.size, i.bytes)) = some (some (.agg #[.int .i64 0, .int .i64 0, .int .i64 0, .slice none 0 0]), 4, 48) := by kernel_rfl
theorem at_row_lt {w : World} {B : Nat} {e : TypeId} {s : Nat} {A : Option Addr} {n c : Nat} {vs : List Value} (h : Row w B e s A n c vs) (k : Nat) (hk : AtRow A k) : B ≤ k ∧ k < w.heap.size := ⟨Row.at_base h k hk, Row.at_lt h k hk⟩
theorem litsR_len : ∀ (k : Nat) (st : Pk.St), (Mt.litsR k st).1.length = k
  | 0, _ => rfl
  | k + 1, st => by
    show ((Mt.litsR k st).1 ++ [(Mt.litR (Mt.litsR k st).2).1]).length = k + 1
    rw [List.length_append, litsR_len k st]; rfl
theorem partsR_len : ∀ (k : Nat) (st : Pk.St), (Mt.partsR k st).1.length = k
  | 0, _ => rfl
  | k + 1, st => by
    show ((Mt.partsR k st).1 ++ [(Mt.partR (Mt.partsR k st).2).1]).length = k + 1
    rw [List.length_append, partsR_len k st]; rfl
theorem litsR_in : ∀ (k : Nat) (st : Pk.St), ∀ x ∈ (Mt.litsR k st).1, x.k ≤ 2 ∧ x.s.size ≤ 1024
  | 0, _, x, h => by cases h
  | k + 1, st, x, h => by
    have h' : x ∈ (Mt.litsR k st).1 ++ [(Mt.litR (Mt.litsR k st).2).1] := h
    rcases List.mem_append.1 h' with h' | h'
    · exact litsR_in k st x h'
    · rw [List.mem_singleton.1 h']
      exact litR_in _
def DecPost (w : World) (b : List Nat) (e : Ending) (w' : World) : Prop :=
  (Mt.decode b = none ∧ e = .returned (.tuple #[.agg #[.string ⟨#[]⟩, .slice none 0 0, .slice none 0 0], .iface 66 (.int .i64 2)]) ∧ Grew w w') ∨
  ∃ v : MV, Mt.decode b = some v.m ∧ e = .returned (.tuple #[.agg (mvCells v), .nilIface]) ∧ MethAt w' v ∧ Grew w w'
set_option maxRecDepth 100000 in
/-- Decode's results: a method, an error. -/
theorem res_meth (tmps : Array Value) (g : Nat) (ha : tmps.getD 2 undef = .pointer (some ⟨g, 0, none⟩)) (v : Value) (hv : tmps.getD 3 undef = v) (w : World) (c0 c1 c2 : Value) (hb : Blk w g 37 #[c0, c1, c2]) :
    (results Tryz.f13 tmps).run Tryz.prog w = .ok (.tuple #[.agg #[c0, c1, c2], v]) w := by
  have y0 : w.cell? ⟨g, 0, none⟩ = some c0 := hb.cell 0
  have y1 : w.cell? ⟨g, 1, none⟩ = some c1 := hb.cell 1
  have y2 : w.cell? ⟨g, 2, none⟩ = some c2 := hb.cell 2
  have ha' : tmps[2]?.getD undef = .pointer (some ⟨g, 0, none⟩) := by simpa using ha
  have hv' : tmps[3]?.getD undef = v := by simpa using hv
  simp [results, Tryz.results13, go_sem, *]
theorem Blk.put3 {w : World} {g : Nat} {t : TypeId} {a0 a1 a2 : Value} (h : Blk w g t #[a0, a1, a2]) (c0 c1 c2 : Value) :
    Blk (((w.setCell ⟨g, 0, none⟩ c0).setCell ⟨g, 1, none⟩ c1).setCell ⟨g, 2, none⟩ c2) g t #[c0, c1, c2] := by
  have := ((h.put 0 c0).put 1 c1).put 2 c2
  simpa using this
theorem kept3 {F : Nat → Prop} {w w2 : World} {g : Nat} (h : Kept F w w2) (hg : g < w.heap.size → F g) (c0 c1 c2 : Value) :
    Kept F w (((w2.setCell ⟨g, 0, none⟩ c0).setCell ⟨g, 1, none⟩ c1).setCell ⟨g, 2, none⟩ c2) :=
  ((h.setCell (p := ⟨g, 0, none⟩) hg c0).setCell (p := ⟨g, 1, none⟩) hg c1).setCell (p := ⟨g, 2, none⟩) hg c2
set_option maxRecDepth 100000 in
set_option maxHeartbeats 4000000 in
theorem decode9_c (A : Option Addr) (c : Nat) (b : List Nat) (w : World) (h : BytesAt w w.heap.size A b) (hl : b.length ≤ 140737488355328) :
    Calls Tryz.prog 13 #[.slice A b.length c] w (DecPost w b) := by
  have hg0 : Grew w (w.alloc (.cells #[.string ⟨#[]⟩, .slice none 0 0, .slice none 0 0] 37)) := (Grew.refl w).alloc _
  have hb0 := Blk.new w 37 #[.string ⟨#[]⟩, .slice none 0 0, .slice none 0 0]
  have HRead := hid (read_c A c b _ (h.grew hg0) hl)
  obtain ⟨H, hH⟩ : ∃ H, H = w.heap.size := ⟨_, rfl⟩
  have HH := hid hH
  rw [← hH] at hb0
  have HG0 := hid hg0
  have HB0 := hid hb0
  have HD := hid (show Mt.decode b = if (Mt.dec (some b)).2 = some [] then some (Mt.dec (some b)).1 else none from rfl)
  have HDe := hid (show Mt.dec (some b) = (⟨Pk.strB (Pk.text (some b) 1024).1, (Mt.litsR (Pk.int (Pk.text (some b) 1024).2 0 64).1.toNat (Pk.int (Pk.text (some b) 1024).2 0 64).2).1, (Mt.partsR (Pk.int (Mt.litsR (Pk.int (Pk.text (some b) 1024).2 0 64).1.toNat (Pk.int (Pk.text (some b) 1024).2 0 64).2).2 0 64).1.toNat (Pk.int (Mt.litsR (Pk.int (Pk.text (some b) 1024).2 0 64).1.toNat (Pk.int (Pk.text (some b) 1024).2 0 64).2).2 0 64).2).1⟩, (Mt.partsR (Pk.int (Mt.litsR (Pk.int (Pk.text (some b) 1024).2 0 64).1.toNat (Pk.int (Pk.text (some b) 1024).2 0 64).2).2 0 64).1.toNat (Pk.int (Mt.litsR (Pk.int (Pk.text (some b) 1024).2 0 64).1.toNat (Pk.int (Pk.text (some b) 1024).2 0 64).2).2 0 64).2).2) from rfl)
  generalize Mt.dec (some b) = DD at *
  have HT := hid (fun (lo g : Nat) (w' : World) (h' : RdAt w' lo g (some b)) => rtext_c lo g (some b) 1024 w' h')
  have HTi := hid (text_in (st := some b) (m := 1024)).1
  rw [show ((1024 : Nat) : Int) = 1024 from rfl] at HTi
  generalize Pk.text (some b) 1024 = T at *
  obtain ⟨ts, st1⟩ := T
  simp only at HDe HT HTi
  have HI := hid (fun (lo g : Nat) (w' : World) (h' : RdAt w' lo g st1) => rint_c lo g st1 0 64 w' h')
  have hNi := int_in (st := st1) (a := 0) (b := 64) (by decide) (by decide)
  generalize Pk.int st1 0 64 = N at *
  obtain ⟨nn, st2⟩ := N
  simp only at HDe HI hNi
  obtain ⟨n, rfl⟩ : ∃ n : Nat, nn = n := ⟨nn.toNat, by omega⟩
  rw [Int.toNat_natCast] at HDe
  generalize b.length = bl at *
  clear h hl hg0 hb0 hH
  go_enter Tryz.func13, Tryz.ntmps13
  go_wp2_with fail
  rw [← HH.out]
  generalize w.alloc (.cells #[.string ⟨#[]⟩, .slice none 0 0, .slice none 0 0] 37) = W1 at *
  refine HRead.out.mono ?_
  rintro e w2 ⟨g, rfl, hg1, hr2, hgr2⟩
  obtain ⟨lo, hlo⟩ : ∃ lo, lo = W1.heap.size := ⟨_, rfl⟩
  have HLo := hid hlo
  rw [← hlo] at hr2 hg1
  have hHl : H < lo := by rw [hlo]; exact HB0.out.lt
  have HR2 := hid hr2
  have HB2 := hid (HB0.out.grew hgr2)
  have HG2 := hid (HG0.out.trans hgr2)
  clear hr2 hgr2 HRead hlo
  go_wp2_with fail
  refine (HT.out _ _ _ HR2.out).mono ?_
  rintro e w3 ⟨rfl, hr3, hk3⟩
  have hr3lt := hr3.lt
  obtain ⟨M, hM⟩ : ∃ M, M = w3.heap.size := ⟨_, rfl⟩
  have HM := hid hM
  have hgM : g < M := by omega
  have hb4 := Blk.new w3 37 #[.string (Pk.strB ts), .slice none 0 0, .slice none 0 0]
  have hg4 : Grew w3 (w3.alloc (.cells #[.string (Pk.strB ts), .slice none 0 0, .slice none 0 0] 37)) := (Grew.refl w3).alloc _
  rw [← hM] at hb4
  have HR4 := hid (hr3.grew hg4 hg1)
  have HB4 := hid hb4
  have HB0 := hid ((HB2.out.kept hk3 (by omega)).grew hg4)
  have HG4 : Hid (Grew w (w3.alloc (.cells #[.string (Pk.strB ts), .slice none 0 0, .slice none 0 0] 37))) := hid ((hk3.grew HG2.out (fun k e => by have := HH.out; omega)).trans hg4)
  clear hr3 hk3 hb4 hg4 hM hr3lt HT HR2 HB2 HG2
  go_wp2_with fail
  rw [← HM.out]
  generalize w3.alloc (.cells #[.string (Pk.strB ts), .slice none 0 0, .slice none 0 0] 37) = w4 at *
  refine (HI.out _ _ _ HR4.out).mono ?_
  rintro e w5 ⟨rfl, hr5, hk5⟩
  have HR5 := hid hr5
  have HB5 := hid (HB4.out.kept hk5 (by omega))
  have HB05 := hid (HB0.out.kept hk5 (by omega))
  have HG5 := hid (hk5.grew HG4.out (fun k e => by have := HH.out; omega))
  have HMs : Hid (M + 1 ≤ w5.heap.size) := hid (HB4.out.kept hk5 (by omega)).lt
  clear hr5 hk5 HI HR4 HB4 HB0 HG4
  go_wp2_with fail
  have hn64 : n ≤ 64 := by omega
  clear hNi
  go_loopw [13] (fun s13 wr => ∃ (i : Nat) (A' : Option Addr) (c' : Nat), s13 = .int .i64 ((i : Nat) : Int) ∧ i ≤ n ∧ Hid (RdAt wr lo g (Mt.litsR i st2).2 ∧ Row wr (M + 1) 62 2 A' i c' ((Mt.litsR i st2).1.flatMap litF) ∧ Blk wr M 37 #[.string (Pk.strB ts), .slice A' i c', .slice none 0 0] ∧ Kept (fun k => k = g ∨ M ≤ k) w5 wr)) (fun s13 _ => n - (intOf s13).toNat)
  case atStart => exact ⟨0, none, 0, rfl, Nat.zero_le _, hid ⟨HR5.out, Row.nil _ _ _ _, HB5.out, Kept.refl _ _⟩⟩
  case round =>
    obtain ⟨i, A', c', rfl, hi, HI⟩ := hrel
    clear HR5 HB5
    by_cases hlt : i < n
    · have f1 : (i : Int) < n := by omega
      obtain ⟨hrd, hrow, hbk, hkp⟩ := HI.out
      have HX : Hid (Mt.litsR (i + 1) st2 = ((Mt.litsR i st2).1 ++ [(Mt.litR (Mt.litsR i st2).2).1], (Mt.litR (Mt.litsR i st2).2).2)) := hid rfl
      generalize Mt.litsR i st2 = L at *
      obtain ⟨ls, st⟩ := L
      simp only at hrd hrow HX
      have hA : ∀ k, AtRow A' k → M < k := fun k hk => (at_row_lt hrow k hk).1
      have hA2 : ∀ k, AtRow A' k → k < wr.heap.size := fun k hk => (at_row_lt hrow k hk).2
      have hRead := fun (w' : World) (h' : RdAt w' lo g st) => readLit_c lo g st w' h' hg1
      have hM2 : M < wr.heap.size := hbk.lt
      generalize Mt.litR st = X at *
      obtain ⟨x, st'⟩ := X
      simp only at HX hRead
      have HRead := hid hRead
      have HA := hid hA
      have HA2 := hid hA2
      have HK := hid hkp
      have HM2 := hid hM2
      have HJ0 : Hid (DJ lo g M st st' A' i c' 62 2 (ls.flatMap litF) 37 #[.string (Pk.strB ts), .slice A' i c', .slice none 0 0] (fun _ => false) wr) := hid ⟨hrd, fun _ => hrow, hbk⟩
      clear hrd hrow hbk hkp hA hA2 hRead hM2 HI
      go_wp2_with fail
      refine wp_region_facts4 (w0 := wr) _ 6 7 [15, 16, 17, 18, 19, 20, 21] [] (DF wr M g 1 A' i c' 62 2 (ls.flatMap litF) litF (fun (y : Mt.Lit) _ => y = x) (fun _ _ => False)) (DR0 g A') (DR g A') (DJ lo g M st st' A' i c' 62 2 (ls.flatMap litF) 37 #[.string (Pk.strB ts), .slice A' i c', .slice none 0 0]) (may_DR0 g A') DR.zero DR.refl (by kernel_rfl) (by kernel_rfl) (Kept.refl _ _).drew (HJ0.out.grew (Grew.refl _).drew hg1) (fun a b v w w' _ _ hab _ h hr => DF.stable hgM (fun y w w' h _ => h) a b v w w' hab h hr) ?_ ?_
      · repeat' (first | exact trivial | apply And.intro)
        all_goals
          intro a w' f hgw hJ hfi hdep hs hA
          have e5 := hs.eval 5 (by decide) (v := .pointer (some ⟨M, 0, none⟩)) rfl
          have e4 := hs.eval 4 (by decide) (v := .pointer (some ⟨g, 0, none⟩)) rfl
          have HJ := hid hJ
          have HFi := hid hfi
          have HGW := hid hgw
          clear hs hgw hJ hfi hdep
          simp only [Ahead, Region.binds, slotOf, DF, List.getD_cons_succ, List.getD_cons_zero, forall_const, and_true] at hA
          simp only [wantedD, if_true]
          unfold Oper.wp
          have ec : ∀ v, a.eval (.const v) = v := fun _ => rfl
          generalize hfe : a.eval = fe at *
          have ef : ∀ k, fe (.func k) = Act.eval ⟨#[], []⟩ (.func k) := fun k => by rw [← hfe]; rfl
          clear hfe
        · go_simp
          exact Gives3.of rfl (DR.refl 0 _) rfl (HJ.out.pure 0 (by decide))
        · have q1 := HJ.out.2.2.cell 1
          simp only [List.getElem?_toArray, List.getElem?_cons_zero, List.getElem?_cons_succ] at q1
          go_simp
          exact Gives3.of rfl (DR.refl 1 _) rfl (HJ.out.pure 1 (by decide))
        · go_simp
          exact Gives3.of rfl (DR.refl 2 _) rfl (HJ.out.pure 2 (by decide))
        · have hrd := HJ.out.1
          rw [if_neg (by rw [HFi.out]; decide)] at hrd
          have HC := hid (HRead.out w' hrd)
          clear hrd
          go_simp
          refine HC.out.mono ?_
          rintro e w3' ⟨rfl, hr3, hk3⟩
          exact Gives3.of rfl hk3 ⟨x, rfl, rfl⟩ (HJ.out.read hr3 hk3 hgM HA.out)
        · obtain ⟨y, hy, hv⟩ := hA
          subst hy
          have hnew := Blk.new w' 62 (litF y).toArray
          have hgn : Grew w' (w'.alloc (.cells (litF y).toArray 62)) := (Grew.refl w').alloc _
          have HN := hid hnew
          have HGn := hid hgn
          unfold litF at hv HN HGn
          clear hnew hgn
          go_simp
          have hsz := HGW.out.size
          exact Gives3.of rfl (Kept.of_grew HGn.out) ⟨y, w'.heap.size, rfl, rfl, HN.out, by have := HM2.out; omega, fun hk => by have := HA2.out _ hk; omega⟩ ((HJ.out.grew HGn.out hg1).pure 4 (by decide))
        · obtain ⟨h1, ⟨y, Hn, hy, hv, hbn, _, _⟩, _⟩ := hA
          subst hy
          have hown := HJ.out.2.1 HFi.out
          obtain ⟨A2, c2, w2', hrun, r1, r2, r3⟩ := run_catR (P := Tryz.prog) 34 34 62 (.agg #[.int .u8 0, .string ⟨#[]⟩]) 2 24 Tryz.underlying34 lit_info9 rfl (by decide) w' (M + 1) (by have := HGW.out.size; have := HM2.out; omega) A' i c' (ls.flatMap litF) hown (some ⟨Hn, 0, none⟩) 1 1 (litF y) rfl (by intro u hu; simp only [litF, List.mem_cons, List.not_mem_nil, or_false] at hu; rcases hu with rfl | rfl <;> rfl) (by intro e; cases e) (fun ad e j u hu => by
            cases e
            rw [show (⟨Hn, 0, none⟩ : Addr).add j = ⟨Hn, j, none⟩ by unfold Addr.add; split <;> simp_all, hbn.cell j, List.getElem?_toArray]
            exact hu) (by omega) (by omega)
          have HR1 := hid r1
          have HR2 := hid r2
          have HR3 : Hid (RowTo wr A' A2) := hid (by
            rcases r3 with r3 | ⟨q, e1, e2⟩
            · exact .inl r3
            · exact .inr ⟨q, e1, Nat.le_trans HGW.out.size e2⟩)
          clear hown hbn r1 r2 r3
          simp only [execOp, resolve, invoke, builtin, Sem.run_bind, Sem.run_pure, Result.andThen_ok, List.map_toArray, List.map_cons, List.map_nil, h1, hv, hrun]
          refine Gives3.of rfl ?_ ?_ ?_
          · exact HR2.out
          · exact ⟨y, A2, c2, rfl, rfl, HR1.out, HR3.out, fun _ h => h.elim⟩
          · exact HJ.out.app HR2.out hg1 hgM HA.out
        · go_simp
          exact Gives3.of rfl (DR.refl 6 _) rfl (HJ.out.pure 6 (by decide))
      · intro a w3' hgw hs hf hJ _
        have h5 := hf 5 (by decide)
        have h6 := hf 6 (by decide)
        simp only [slotOf, DF, List.getD_cons_succ, List.getD_cons_zero] at h5 h6
        obtain ⟨y, A2, c2, hy, ev, hrow, hto, _⟩ := h5
        subst hy
        obtain ⟨fn, rfl, hft⟩ := hs.put
        rw [hft] at ev h6
        have hbM := hJ.2.2
        have hrd := hJ.1
        rw [if_pos (by decide)] at hrd
        have q1 := hbM.cell 1
        have q2 := hbM.frozen 1
        simp only [List.getElem?_toArray, List.getElem?_cons_zero, List.getElem?_cons_succ] at q1
        have HbM := hid hbM
        have Hrd := hid hrd
        have Hrow := hid hrow
        have HGw := hid hgw
        clear hf hft hs hgw hJ hbM hrd hrow hto
        simp only [List.drop_succ_cons, List.drop_zero, putAll, List.foldl_cons, List.foldl_nil, Act.put, List.setIfInBounds_toArray, List.set_cons_succ, List.set_cons_zero, ev, h6]
        clear ev h6
        go_wp2_with fail
        have hks : Kept (· = M) w3' (w3'.setCell ⟨M, 1, none⟩ (.slice A2 (i + 1) c2)) := (Kept.refl (· = M) w3').setCell (p := ⟨M, 1, none⟩) (fun _ => rfl) _
        have hbn := HbM.out.put 1 (.slice A2 (i + 1) c2)
        simp only [List.setIfInBounds_toArray, List.set_cons_zero, List.set_cons_succ] at hbn
        have HX1 := hid (Hrd.out.kept hks (fun k _ h2 h3 => by omega) hg1)
        have HX2 := hid (Hrow.out.kept hks (fun q hq e => by have := Row.at_base Hrow.out q ⟨_, hq, rfl⟩; omega))
        have HX3 := hid hbn
        have HX4 : Hid (Kept (fun k => k = g ∨ M ≤ k) w5 (w3'.setCell ⟨M, 1, none⟩ (.slice A2 (i + 1) c2))) := hid (((HK.out.trans (HGw.out.mono (fun k _ h => by rcases h with h | h; exact .inl h; exact .inr (Nat.le_of_lt (HA.out k h)))))).trans (hks.mono (fun k _ h => .inr (by omega))))
        clear hks hbn
        go_round
        case rel => exact ⟨i + 1, A2, c2, by go_num, by omega, hid ⟨by rw [HX.out]; exact HX1.out, by rw [HX.out, List.flatMap_append]; simpa using HX2.out, HX3.out, HX4.out⟩⟩
        case measure => simp [intOf]; omega
    · have hin : i = n := by omega
      subst hin
      have HLn := hid (litsR_len i st2)
      have HLi := hid (litsR_in i st2)
      generalize Mt.litsR i st2 = L at *
      obtain ⟨ls, st3⟩ := L
      simp only at HDe HI HLn HLi
      have HIn := hid (fun (w' : World) (h' : RdAt w' lo g st3) => rint_c lo g st3 0 64 w' h')
      have hNi := int_in (st := st3) (a := 0) (b := 64) (by decide) (by decide)
      generalize Pk.int st3 0 64 = N at *
      obtain ⟨kk, st4⟩ := N
      simp only at HDe HIn hNi
      obtain ⟨k, rfl⟩ : ∃ k : Nat, kk = k := ⟨kk.toNat, by omega⟩
      rw [Int.toNat_natCast] at HDe
      have hk64 : k ≤ 64 := by omega
      clear hNi
      go_wp2_with fail
      refine (HIn.out _ HI.out.1).mono ?_
      rintro e w7 ⟨rfl, hr7, hk7⟩
      have HR7 := hid hr7
      have HRow7 := hid (HI.out.2.1.kept hk7 (fun q hq e => by have := Row.at_base HI.out.2.1 q ⟨_, hq, rfl⟩; omega))
      have HB7 := hid (HI.out.2.2.1.kept hk7 (by omega))
      have HK7 : Hid (Kept (fun k => k = g ∨ M ≤ k) w5 w7) := hid (HI.out.2.2.2.trans (hk7.mono (fun _ _ h => .inl h)))
      clear hr7 hk7 HIn HI
      go_wp2_with fail
      go_loopw [25] (fun s25 wr => ∃ (j : Nat) (A2 : Option Addr) (c2 : Nat) (pv : List PV), s25 = .int .i64 ((j : Nat) : Int) ∧ j ≤ k ∧ Hid (pv.map (·.p) = (Mt.partsR j st4).1 ∧ RdAt wr lo g (Mt.partsR j st4).2 ∧ Row wr (M + 1) 63 4 A2 j c2 (pv.flatMap pvF) ∧ Blk wr M 37 #[.string (Pk.strB ts), .slice A' i c', .slice A2 j c2] ∧ Kept (fun k => k = g ∨ M ≤ k) w5 wr ∧ Row wr (M + 1) 62 2 A' i c' (ls.flatMap litF) ∧ (∀ v ∈ pv, PvOk wr v ∧ ∀ ad, v.A = some ad → M < ad.block ∧ ¬ AtRow A2 ad.block ∧ ad.block < wr.heap.size) ∧ (∀ q, AtRow A' q → ¬ AtRow A2 q))) (fun s25 _ => k - (intOf s25).toNat)
      case atStart => exact ⟨0, none, 0, [], rfl, Nat.zero_le _, hid ⟨rfl, HR7.out, Row.nil _ _ _ _, HB7.out, HK7.out, HRow7.out, (fun v hv => by cases hv), (fun q _ h => by obtain ⟨_, e, _⟩ := h; cases e)⟩⟩
      case round =>
        obtain ⟨j, A2, c2, pv, rfl, hj, HJ⟩ := hrel
        clear HR7 HRow7 HB7 HK7
        by_cases hlt : j < k
        · have f1 : (j : Int) < k := by omega
          obtain ⟨hpm, hrd, hrow, hbk, hkp, hrow1, hels, hap⟩ := HJ.out
          have HX : Hid (Mt.partsR (j + 1) st4 = ((Mt.partsR j st4).1 ++ [(Mt.partR (Mt.partsR j st4).2).1], (Mt.partR (Mt.partsR j st4).2).2)) := hid rfl
          generalize Mt.partsR j st4 = L at *
          obtain ⟨lp, st⟩ := L
          simp only at hpm hrd HX
          have hA : ∀ k, AtRow A2 k → M < k := fun k hk => (at_row_lt hrow k hk).1
          have hA2 : ∀ k, AtRow A2 k → k < wr.heap.size := fun k hk => (at_row_lt hrow k hk).2
          have hA1 : ∀ k, AtRow A' k → M < k ∧ k < wr.heap.size := fun k hk => at_row_lt hrow1 k hk
          have hRead := fun (w' : World) (h' : RdAt w' lo g st) => readPart_c lo g st w' h' hg1
          have hM2 : M < wr.heap.size := hbk.lt
          generalize Mt.partR st = X at *
          obtain ⟨x, st'⟩ := X
          simp only at HX hRead
          have HRead := hid hRead
          have HA := hid hA
          have HA2 := hid hA2
          have HA1 := hid hA1
          have HK := hid hkp
          have HM2 := hid hM2
          have HPm := hid hpm
          have HRow1 := hid hrow1
          have HEls := hid hels
          have HAp := hid hap
          have HJ0 : Hid (DJ lo g M st st' A2 j c2 63 4 (pv.flatMap pvF) 37 #[.string (Pk.strB ts), .slice A' i c', .slice A2 j c2] (fun _ => false) wr) := hid ⟨hrd, fun _ => hrow, hbk⟩
          have HGs : Hid (∀ (y : PV) (w w' : World), (y.p = x ∧ PvOk w y ∧ (∀ ad, y.A = some ad → wr.heap.size ≤ ad.block ∧ ad.block < w.heap.size)) → DR0 g A2 w w' → (y.p = x ∧ PvOk w' y ∧ (∀ ad, y.A = some ad → wr.heap.size ≤ ad.block ∧ ad.block < w'.heap.size))) := hid (fun y w w' ⟨h1, h2, h3⟩ hr => ⟨h1, h2.kept9 hr (fun ad e hF => by
            have h4 := h3 ad e
            rcases hF with hF | hF
            · omega
            · have := hA2 _ hF; omega), fun ad e => ⟨(h3 ad e).1, Nat.lt_of_lt_of_le (h3 ad e).2 (Kept.size hr)⟩⟩)
          clear hrd hrow hbk hkp hA hA2 hA1 hRead hM2 HJ hpm hrow1 hels hap
          go_wp2_with fail
          refine wp_region_facts4 (w0 := wr) _ 6 7 [27, 28, 29, 30, 31, 32, 33] [] (DF wr M g 2 A2 j c2 63 4 (pv.flatMap pvF) pvF (fun (y : PV) w => y.p = x ∧ PvOk w y ∧ (∀ ad, y.A = some ad → wr.heap.size ≤ ad.block ∧ ad.block < w.heap.size)) (fun y q => ∃ ad, y.A = some ad ∧ ad.block = q)) (DR0 g A2) (DR g A2) (DJ lo g M st st' A2 j c2 63 4 (pv.flatMap pvF) 37 #[.string (Pk.strB ts), .slice A' i c', .slice A2 j c2]) (may_DR0 g A2) DR.zero DR.refl (by kernel_rfl) (by kernel_rfl) (Kept.refl _ _).drew (HJ0.out.grew (Grew.refl _).drew hg1) (fun a b v w w' _ _ hab _ h hr => DF.stable hgM (HGs.out) a b v w w' hab h hr) ?_ ?_
          · repeat' (first | exact trivial | apply And.intro)
            all_goals
              intro a w' f hgw hJ hfi hdep hs hA
              have e5 := hs.eval 5 (by decide) (v := .pointer (some ⟨M, 0, none⟩)) rfl
              have e4 := hs.eval 4 (by decide) (v := .pointer (some ⟨g, 0, none⟩)) rfl
              have HJ := hid hJ
              have HFi := hid hfi
              have HGW := hid hgw
              clear hs hgw hJ hfi hdep
              simp only [Ahead, Region.binds, slotOf, DF, List.getD_cons_succ, List.getD_cons_zero, forall_const, and_true] at hA
              simp only [wantedD, if_true]
              unfold Oper.wp
              have ec : ∀ v, a.eval (.const v) = v := fun _ => rfl
              generalize hfe : a.eval = fe at *
              have ef : ∀ k, fe (.func k) = Act.eval ⟨#[], []⟩ (.func k) := fun k => by rw [← hfe]; rfl
              clear hfe
            · go_simp
              exact Gives3.of rfl (DR.refl 0 _) rfl (HJ.out.pure 0 (by decide))
            · have q1 := HJ.out.2.2.cell 2
              simp only [List.getElem?_toArray, List.getElem?_cons_zero, List.getElem?_cons_succ] at q1
              go_simp
              exact Gives3.of rfl (DR.refl 1 _) rfl (HJ.out.pure 1 (by decide))
            · go_simp
              exact Gives3.of rfl (DR.refl 2 _) rfl (HJ.out.pure 2 (by decide))
            · have hrd := HJ.out.1
              rw [if_neg (by rw [HFi.out]; decide)] at hrd
              have HC := hid (HRead.out w' hrd)
              clear hrd
              go_simp
              refine HC.out.mono ?_
              rintro e w3' ⟨v, rfl, hv1, hv2, hv3, hr3, hk3⟩
              refine Gives3.of rfl ?_ ?_ ?_
              · exact hk3
              · exact ⟨v, ⟨hv1, hv2, fun ad e => ⟨Nat.le_trans HGW.out.size (hv3 ad e).1, (hv3 ad e).2⟩⟩, rfl⟩
              · exact HJ.out.read hr3 hk3 hgM HA.out
            · obtain ⟨y, hy, hv⟩ := hA
              have HY := hid hy
              have hnew := Blk.new w' 63 (pvF y).toArray
              have hgn : Grew w' (w'.alloc (.cells (pvF y).toArray 63)) := (Grew.refl w').alloc _
              have HN := hid hnew
              have HGn := hid hgn
              unfold pvF at hv HN HGn
              clear hnew hgn hy
              go_simp
              have hsz := HGW.out.size
              refine Gives3.of rfl ?_ ?_ ?_
              · exact Kept.of_grew HGn.out
              · exact ⟨y, w'.heap.size, HGs.out y _ _ HY.out (Kept.of_grew HGn.out), rfl, HN.out, by have := HM2.out; omega, fun hk => by have := HA2.out _ hk; omega⟩
              · exact (HJ.out.grew HGn.out hg1).pure 4 (by decide)
            · obtain ⟨h1, ⟨y, Hn, hy, hv, hbn, _, _⟩, _⟩ := hA
              have hown := HJ.out.2.1 HFi.out
              obtain ⟨A3, c3, w2', hrun, r1, r2, r3⟩ := run_catR (P := Tryz.prog) 35 35 63 (.agg #[.int .i64 0, .int .i64 0, .int .i64 0, .slice none 0 0]) 4 48 Tryz.underlying35 part_info9 rfl (by decide) w' (M + 1) (by have := HGW.out.size; have := HM2.out; omega) A2 j c2 (pv.flatMap pvF) hown (some ⟨Hn, 0, none⟩) 1 1 (pvF y) rfl (by intro u hu; simp only [pvF, List.mem_cons, List.not_mem_nil, or_false] at hu; rcases hu with rfl | rfl | rfl | rfl <;> rfl) (by intro e; cases e) (fun ad e j u hu => by
                cases e
                rw [show (⟨Hn, 0, none⟩ : Addr).add j = ⟨Hn, j, none⟩ by unfold Addr.add; split <;> simp_all, hbn.cell j, List.getElem?_toArray]
                exact hu) (by omega) (by omega)
              have HR1 := hid r1
              have HR2 := hid r2
              have HR3 : Hid (RowTo wr A2 A3) := hid (by
                rcases r3 with r3 | ⟨q, e1, e2⟩
                · exact .inl r3
                · exact .inr ⟨q, e1, Nat.le_trans HGW.out.size e2⟩)
              have HFar : Hid (∀ q, (∃ ad, y.A = some ad ∧ ad.block = q) → ¬ AtRow A3 q) := hid (by
                rintro q ⟨ad, e, rfl⟩ hq
                have h4 := hy.2.2 ad e
                rcases r3 with r3 | ⟨q', e1, e2⟩
                · rw [r3] at hq
                  have := HA2.out _ hq
                  omega
                · rw [e1] at hq
                  obtain ⟨ad', e3, e4⟩ := hq
                  cases e3
                  simp only at e4
                  omega)
              have HY2 := hid (HGs.out y w' w2' hy (r2.mono (fun _ _ h => .inr h)))
              clear hown hbn r1 r2 r3 hy
              simp only [execOp, resolve, invoke, builtin, Sem.run_bind, Sem.run_pure, Result.andThen_ok, List.map_toArray, List.map_cons, List.map_nil, h1, hv, hrun]
              refine Gives3.of rfl ?_ ?_ ?_
              · exact HR2.out
              · exact ⟨y, A3, c3, HY2.out, rfl, HR1.out, HR3.out, HFar.out⟩
              · exact HJ.out.app HR2.out hg1 hgM HA.out
            · go_simp
              exact Gives3.of rfl (DR.refl 6 _) rfl (HJ.out.pure 6 (by decide))
          · intro a w3' hgw hs hf hJ _
            have h5 := hf 5 (by decide)
            have h6 := hf 6 (by decide)
            simp only [slotOf, DF, List.getD_cons_succ, List.getD_cons_zero] at h5 h6
            obtain ⟨y, A3, c3, hy, ev, hrow, hto, hfar⟩ := h5
            obtain ⟨fn, rfl, hft⟩ := hs.put
            rw [hft] at ev h6
            have hbM := hJ.2.2
            have hrd := hJ.1
            rw [if_pos (by decide)] at hrd
            have q1 := hbM.cell 2
            have q2 := hbM.frozen 2
            simp only [List.getElem?_toArray, List.getElem?_cons_zero, List.getElem?_cons_succ] at q1
            have HbM := hid hbM
            have Hrd := hid hrd
            have Hrow := hid hrow
            have HGw := hid hgw
            have HY := hid hy
            have HTo := hid hto
            have HFar := hid hfar
            clear hf hft hs hgw hJ hbM hrd hrow hto hy hfar
            simp only [List.drop_succ_cons, List.drop_zero, putAll, List.foldl_cons, List.foldl_nil, Act.put, List.setIfInBounds_toArray, List.set_cons_succ, List.set_cons_zero, ev, h6]
            clear ev h6
            go_wp2_with fail
            have hks : Kept (· = M) w3' (w3'.setCell ⟨M, 2, none⟩ (.slice A3 (j + 1) c3)) := (Kept.refl (· = M) w3').setCell (p := ⟨M, 2, none⟩) (fun _ => rfl) _
            have hbn := HbM.out.put 2 (.slice A3 (j + 1) c3)
            simp only [List.setIfInBounds_toArray, List.set_cons_zero, List.set_cons_succ] at hbn
            have hall : Kept (fun k => (k = g ∨ AtRow A2 k) ∨ k = M) wr (w3'.setCell ⟨M, 2, none⟩ (.slice A3 (j + 1) c3)) := (HGw.out.mono (fun _ _ h => .inl h)).trans (hks.mono (fun _ _ h => .inr h))
            have HX1 := hid (Hrd.out.kept hks (fun k _ h2 h3 => by omega) hg1)
            have HX2 := hid (Hrow.out.kept hks (fun q hq e => by have := Row.at_base Hrow.out q ⟨_, hq, rfl⟩; omega))
            have HX3 := hid hbn
            have HX4 : Hid (Kept (fun k => k = g ∨ M ≤ k) w5 (w3'.setCell ⟨M, 2, none⟩ (.slice A3 (j + 1) c3))) := hid (HK.out.trans (hall.mono (fun k _ h => by rcases h with (h | h) | h; exact .inl h; exact .inr (Nat.le_of_lt (HA.out k h)); exact .inr (by omega))))
            have HX5 := hid (HRow1.out.kept hall (fun q hq hF => by
              have h1 := HA1.out q ⟨_, hq, rfl⟩
              rcases hF with (hF | hF) | hF
              · omega
              · exact HAp.out q ⟨_, hq, rfl⟩ hF
              · omega))
            have hsz := Kept.size hall
            have hszw : wr.heap.size ≤ w3'.heap.size := Kept.size HGw.out
            have HX6 : Hid (∀ v ∈ pv ++ [y], PvOk (w3'.setCell ⟨M, 2, none⟩ (.slice A3 (j + 1) c3)) v ∧ ∀ ad, v.A = some ad → M < ad.block ∧ ¬ AtRow A3 ad.block ∧ ad.block < (w3'.setCell ⟨M, 2, none⟩ (.slice A3 (j + 1) c3)).heap.size) := hid (fun v hv => by
              rcases List.mem_append.1 hv with hv | hv
              · obtain ⟨h1, h2⟩ := HEls.out v hv
                refine ⟨h1.kept9 hall (fun ad e hF => by
                  have h3 := h2 ad e
                  rcases hF with (hF | hF) | hF
                  · omega
                  · exact h3.2.1 hF
                  · omega), fun ad e => ?_⟩
                have h3 := h2 ad e
                refine ⟨h3.1, fun hq => ?_, by omega⟩
                rcases HTo.out with h4 | ⟨q, e1, e2⟩
                · rw [h4] at hq; exact h3.2.1 hq
                · rw [e1] at hq
                  obtain ⟨ad', e3, e4⟩ := hq
                  cases e3
                  simp only at e4
                  omega
              · rw [List.mem_singleton.1 hv]
                obtain ⟨_, h2, h3⟩ := HY.out
                have hm2 := HM2.out
                refine ⟨h2.kept9 hks (fun ad e hF => by have := h3 ad e; omega), fun ad e => ?_⟩
                have h4 := h3 ad e
                refine ⟨by omega, HFar.out _ ⟨ad, e, rfl⟩, Nat.lt_of_lt_of_le h4.2 (Kept.size hks)⟩)
            have HX7 : Hid (∀ q, AtRow A' q → ¬ AtRow A3 q) := hid (fun q hq hq3 => by
              rcases HTo.out with h4 | ⟨q', e1, e2⟩
              · rw [h4] at hq3; exact HAp.out q hq hq3
              · rw [e1] at hq3
                obtain ⟨ad', e3, e4⟩ := hq3
                cases e3
                simp only at e4
                have := (HA1.out q hq).2
                omega)
            clear hks hbn hall hsz hszw
            go_round
            case rel => exact ⟨j + 1, A3, c3, pv ++ [y], by go_num, by omega, hid ⟨by rw [HX.out, List.map_append, HPm.out]; simp [HY.out.1], by rw [HX.out]; exact HX1.out, by rw [List.flatMap_append]; simpa using HX2.out, HX3.out, HX4.out, HX5.out, HX6.out, HX7.out⟩⟩
            case measure => simp [intOf]; omega
        · have hjk : j = k := by omega
          subst hjk
          obtain ⟨hpm, hrd, hrow, hbk, hkp, hrow1, hels, hap⟩ := HJ.out
          have HPl := hid (partsR_len j st4)
          generalize Mt.partsR j st4 = L at *
          obtain ⟨lp, st5⟩ := L
          simp only at hpm hrd HDe HPl
          have HDo := hid (rdone_c lo g st5 wr hrd)
          have hdd : DD = (⟨Pk.strB ts, ls, lp⟩, st5) := HDe.out
          rw [hdd] at HD
          simp only at HD
          have hpl : pv.length = j := by rw [← HPl.out, ← hpm, List.length_map]
          have hgr : Grew w wr := hkp.grew HG5.out (fun q hq => by have := HH.out; omega)
          have hb0 := HB05.out.kept hkp (fun hq => by omega)
          have HMe : Hid (∀ wf, Kept (· = H) wr wf → MethAt wf ⟨Pk.strB ts, ls, A', c', pv, A2, c2⟩) := hid (fun wf hk => by
            refine ⟨by show (Pk.strB ts).size ≤ 2000; rw [Mt.strB_size]; have := HTi.out; omega, ?_, by show ls.length ≤ 100; have := HLn.out; omega, ?_, by show pv.length ≤ 100; omega⟩
            · exact row_lits HLn.out.symm (hrow1.kept hk (fun q hq e => by have := Row.at_base hrow1 q ⟨_, hq, rfl⟩; omega)) (fun x hx => by have := HLi.out x hx; omega)
            · refine row_parts hpl.symm (hrow.kept hk (fun q hq e => by have := Row.at_base hrow q ⟨_, hq, rfl⟩; omega)) (fun v hv => ?_)
              obtain ⟨h1, h2⟩ := hels v hv
              exact h1.kept9 hk (fun ad e hF => by have := h2 ad e; omega))
          have HLs : Hid (ls.length = i ∧ pv.length = j ∧ pv.map (·.p) = lp) := hid ⟨HLn.out, hpl, hpm⟩
          have m0 := hbk.cell 0
          have m1 := hbk.cell 1
          have m2 := hbk.cell 2
          have r0 := hb0.cell 0
          have r1 := hb0.cell 1
          have r2 := hb0.cell 2
          have k0 := hb0.frozen 0
          have k1 := hb0.frozen 1
          have k2 := hb0.frozen 2
          simp only [List.getElem?_toArray, List.getElem?_cons_zero, List.getElem?_cons_succ] at m0 m1 m2 r0 r1 r2
          have HB0' := hid hb0
          have HGr := hid hgr
          clear HJ hpm hrd hrow hbk hkp hrow1 hels hap hpl hgr hb0 hdd
          go_wp2_with fail
          refine HDo.out.mono ?_
          rintro e w8 ⟨rfl, rfl⟩
          by_cases hst : st5 = some []
          · rw [if_pos hst]
            rw [show errVal 0 = .nilIface from rfl]
            have HDs := hid (show Mt.decode b = some ⟨Pk.strB ts, ls, lp⟩ by rw [HD.out, if_pos hst])
            clear hst
            go_wp2_with fail
            refine bodyPost_ret (v := .tuple #[.agg #[.string (Pk.strB ts), .slice A' i c', .slice A2 j c2], .nilIface]) (res_meth _ H rfl _ rfl _ _ _ _ (HB0'.out.put3 _ _ _)) rfl ?_
            have hk9 := kept3 (Kept.refl (· = H) w8) (g := H) (fun _ => rfl) (.string (Pk.strB ts)) (.slice A' i c') (.slice A2 j c2)
            refine .inr ⟨⟨Pk.strB ts, ls, A', c', pv, A2, c2⟩, ?_, ?_, HMe.out _ hk9, hk9.grew HGr.out (fun q e => by have := HH.out; omega)⟩
            · rw [HDs.out, MV.m, HLs.out.2.2]
            · rw [mvCells, HLs.out.1, HLs.out.2.1]
          · rw [if_neg hst]
            rw [show errVal 2 = .iface 66 (.int .i64 2) from rfl]
            have HDs := hid (show Mt.decode b = none by rw [HD.out, if_neg hst])
            clear hst
            go_wp2_with fail
            refine bodyPost_ret (v := .tuple #[.agg #[.string ⟨#[]⟩, .slice none 0 0, .slice none 0 0], .iface 66 (.int .i64 2)]) (res_meth _ H rfl _ rfl _ _ _ _ (HB0'.out.put3 _ _ _)) rfl ?_
            have hk9 := kept3 (Kept.refl (· = H) w8) (g := H) (fun _ => rfl) (.string ⟨#[]⟩) (.slice none 0 0) (.slice none 0 0)
            exact .inl ⟨HDs.out, rfl, hk9.grew HGr.out (fun q e => by have := HH.out; omega)⟩
end Go.Proofs.YtjdgcgpidhljpaaGreatDoor
end

section
/- Stage 9: encodable. -/
namespace Go.Proofs.YtjdgcgpidhljpaaGreatDoor
open Go.RowKit

set_option maxRecDepth 100000 in
set_option maxHeartbeats 1000000 in
theorem encLit_c (x : Mt.Lit) (w : World) : Calls Tryz.prog 61 #[.agg #[.int .u8 ((x.k : Nat) : Int), .string x.s]] w fun e w' => e = .returned (.bool (Mt.litFits x)) ∧ Grew w w' := by
  obtain ⟨k, s⟩ := x
  unfold Mt.litFits
  simp only
  have HG := hid ((Grew.refl w).alloc (.cells #[.int .u8 ((k : Nat) : Int), .string s] 62))
  by_cases h1 : k ≤ 2
  · rw [decide_eq_true h1, Bool.true_and]
    have f1 : ((k : Nat) : Int) ≤ 2 := by omega
    by_cases h2 : s.size ≤ 1024
    · rw [decide_eq_true h2]
      have f2 : (s.size : Int) ≤ 1024 := by omega
      go_enter Tryz.func61, Tryz.ntmps61
      go_wp2_with fail
      go_ret
      exact ⟨rfl, HG.out⟩
    · rw [decide_eq_false h2]
      have f2 : ¬ (s.size : Int) ≤ 1024 := by omega
      go_enter Tryz.func61, Tryz.ntmps61
      go_wp2_with fail
      go_ret
      exact ⟨rfl, HG.out⟩
  · rw [decide_eq_false h1, Bool.false_and]
    have f1 : ¬ ((k : Nat) : Int) ≤ 2 := by omega
    go_enter Tryz.func61, Tryz.ntmps61
    go_wp2_with fail
    go_ret
    exact ⟨rfl, HG.out⟩
theorem notEncLit_c (x : Mt.Lit) (w : World) : Calls Tryz.prog 60 #[.agg #[.int .u8 ((x.k : Nat) : Int), .string x.s]] w fun e w' => e = .returned (.bool (!(Mt.litFits x))) ∧ Grew w w' := by
  have HG := hid ((Grew.refl w).alloc (.cells #[.int .u8 ((x.k : Nat) : Int), .string x.s] 62))
  have HV := hid (encLit_c x (w.alloc (.cells #[.int .u8 ((x.k : Nat) : Int), .string x.s] 62)))
  generalize Mt.litFits x = b at *
  obtain ⟨k, s⟩ := x
  simp only at HV HG ⊢
  go_enter Tryz.func60, Tryz.ntmps60
  go_wp2_with fail
  refine HV.out.mono ?_
  rintro e w1 ⟨rfl, hg⟩
  go_wp2_with fail
  go_ret
  exact ⟨rfl, HG.out.trans hg⟩
set_option maxRecDepth 100000 in
set_option maxHeartbeats 1000000 in
theorem encPart_c (v : PV) (w : World) : Calls Tryz.prog 63 #[.agg (pvCells v)] w fun e w' => e = .returned (.bool (Mt.partFits v.p)) ∧ Grew w w' := by
  have HG := hid ((Grew.refl w).alloc (.cells (pvCells v) 63))
  have H1 := hid (within_c v.p.outer (-1) 63 (w.alloc (.cells (pvCells v) 63)))
  have H2 := hid (within_c v.p.args 0 16 (w.alloc (.cells (pvCells v) 63)))
  have H3 := hid (within_c v.p.temps 0 16 (w.alloc (.cells (pvCells v) 63)))
  have hd : Mt.partFits v.p = ((decide (-1 ≤ v.p.outer) && decide (v.p.outer ≤ 63)) && (decide (0 ≤ v.p.args) && decide (v.p.args ≤ 16)) && (decide (0 ≤ v.p.temps) && decide (v.p.temps ≤ 16)) && decide (v.p.code.length ≤ 512)) := by
    simp only [Mt.partFits, Bool.and_assoc]
  rw [hd]
  generalize (decide (-1 ≤ v.p.outer) && decide (v.p.outer ≤ 63)) = b1 at *
  generalize (decide (0 ≤ v.p.args) && decide (v.p.args ≤ 16)) = b2 at *
  generalize (decide (0 ≤ v.p.temps) && decide (v.p.temps ≤ 16)) = b3 at *
  clear hd
  obtain ⟨⟨po, pa, pt, code⟩, A, c⟩ := v
  unfold pvCells at *
  simp only at HG H1 H2 H3 ⊢
  generalize code.length = n at *
  cases b1
  · go_enter Tryz.func63, Tryz.ntmps63
    go_wp2_with fail
    refine H1.out.mono ?_
    rintro e w1 ⟨rfl, rfl⟩
    go_wp2_with fail
    go_ret
    exact ⟨rfl, HG.out⟩
  · cases b2
    · go_enter Tryz.func63, Tryz.ntmps63
      go_wp2_with fail
      refine H1.out.mono ?_
      rintro e w1 ⟨rfl, rfl⟩
      go_wp2_with fail
      refine H2.out.mono ?_
      rintro e w1 ⟨rfl, rfl⟩
      go_wp2_with fail
      go_ret
      exact ⟨rfl, HG.out⟩
    · cases b3
      · go_enter Tryz.func63, Tryz.ntmps63
        go_wp2_with fail
        refine H1.out.mono ?_
        rintro e w1 ⟨rfl, rfl⟩
        go_wp2_with fail
        refine H2.out.mono ?_
        rintro e w1 ⟨rfl, rfl⟩
        go_wp2_with fail
        refine H3.out.mono ?_
        rintro e w1 ⟨rfl, rfl⟩
        go_wp2_with fail
        go_ret
        exact ⟨rfl, HG.out⟩
      · have HD := hid (show decide ((n : Int) ≤ 512) = decide (n ≤ 512) by rw [decide_eq_decide]; omega)
        go_enter Tryz.func63, Tryz.ntmps63
        go_wp2_with fail
        refine H1.out.mono ?_
        rintro e w1 ⟨rfl, rfl⟩
        go_wp2_with fail
        refine H2.out.mono ?_
        rintro e w1 ⟨rfl, rfl⟩
        go_wp2_with fail
        refine H3.out.mono ?_
        rintro e w1 ⟨rfl, rfl⟩
        go_wp2_with fail
        go_ret
        exact ⟨congrArg (fun z => Ending.returned (.bool z)) HD.out, HG.out⟩
theorem notEncPart_c (v : PV) (w : World) : Calls Tryz.prog 62 #[.agg (pvCells v)] w fun e w' => e = .returned (.bool (!(Mt.partFits v.p))) ∧ Grew w w' := by
  have HG := hid ((Grew.refl w).alloc (.cells (pvCells v) 63))
  have HV := hid (encPart_c v (w.alloc (.cells (pvCells v) 63)))
  generalize Mt.partFits v.p = b at *
  obtain ⟨⟨po, pa, pt, code⟩, A, c⟩ := v
  unfold pvCells at *
  simp only at HV HG ⊢
  generalize code.length = n at *
  go_enter Tryz.func62, Tryz.ntmps62
  go_wp2_with fail
  refine HV.out.mono ?_
  rintro e w1 ⟨rfl, hg⟩
  go_wp2_with fail
  go_ret
  exact ⟨rfl, HG.out.trans hg⟩
set_option maxRecDepth 100000 in
set_option maxHeartbeats 2000000 in
theorem encodable_c (v : MV) (w : World) (h : MethAt w v) : Calls Tryz.prog 24 #[.agg (mvCells v)] w fun e w' => e = .returned (.bool (Mt.fitsAll v.m)) ∧ Grew w w' := by
  have HG := hid ((Grew.refl w).alloc (.cells (mvCells v) 37))
  have HB := hid (Blk.new w 37 (mvCells v))
  have HL := hid (anyLit_c 60 #[] (enters_of Tryz.func60 (by kernel_rfl) rfl) (fun x => !(Mt.litFits x)) v.A1 v.c1 v.lits _ (h.lits.grew HG.out) (by have := h.l1; omega) (fun x _ W _ => notEncLit_c x W))
  have HP := hid (fun (w' : World) (hg : Grew _ w') => anyPart_c 62 #[] (enters_of Tryz.func62 (by kernel_rfl) rfl) (fun x => !(Mt.partFits x.p)) v.A2 v.c2 v.vs w' (h.parts.grew (HG.out.trans hg)) (by have := h.l2; omega) (fun x _ W _ => notEncPart_c x W))
  have hd : Mt.fitsAll v.m = (decide (v.sel.size ≤ 1024) && (decide (v.lits.length ≤ 64) && (!(v.lits.any fun x => !(Mt.litFits x)) && (decide (v.vs.length ≤ 64) && !(v.vs.any fun x => !(Mt.partFits x.p)))))) := by
    unfold Mt.fitsAll MV.m
    simp only [List.length_map, List.all_map, List.not_any_eq_all_not, Bool.not_not]
    rfl
  rw [hd]
  generalize (v.lits.any fun x => !(Mt.litFits x)) = b1 at *
  generalize (v.vs.any fun x => !(Mt.partFits x.p)) = b2 at *
  have hl1 := h.l1
  have hl2 := h.l2
  have hsz := h.sel
  clear h hd
  obtain ⟨s, l, A1, c1, vs, A2, c2⟩ := v
  unfold mvCells at *
  simp only at HG HB HL HP hl1 hl2 hsz ⊢
  generalize l.length = n1 at *
  generalize vs.length = n2 at *
  by_cases h1 : s.size ≤ 1024
  · rw [decide_eq_true h1, Bool.true_and]
    have f1 : (s.size : Int) ≤ 1024 := by omega
    by_cases h2 : n1 ≤ 64
    · rw [decide_eq_true h2, Bool.true_and]
      have f2 : (n1 : Int) ≤ 64 := by omega
      cases b1
      · by_cases h3 : n2 ≤ 64
        · rw [decide_eq_true h3]
          have f3 : (n2 : Int) ≤ 64 := by omega
          go_enter Tryz.func24, Tryz.ntmps24
          go_wp2_with fail
          refine HL.out.mono ?_
          rintro e w1 ⟨rfl, hg⟩
          have HG1 := hid hg
          have r2 := (HB.out.grew hg).cell 2
          simp only [List.getElem?_toArray, List.getElem?_cons_zero, List.getElem?_cons_succ] at r2
          clear hg
          go_wp2_with fail
          refine (HP.out _ HG1.out).mono ?_
          rintro e w2 ⟨rfl, hg2⟩
          go_wp2_with fail
          go_ret
          exact ⟨by cases b2 <;> rfl, HG.out.trans (HG1.out.trans hg2)⟩
        · rw [decide_eq_false h3]
          have f3 : ¬ (n2 : Int) ≤ 64 := by omega
          go_enter Tryz.func24, Tryz.ntmps24
          go_wp2_with fail
          refine HL.out.mono ?_
          rintro e w1 ⟨rfl, hg⟩
          have HG1 := hid hg
          have r2 := (HB.out.grew hg).cell 2
          simp only [List.getElem?_toArray, List.getElem?_cons_zero, List.getElem?_cons_succ] at r2
          clear hg
          go_wp2_with fail
          go_ret
          exact ⟨rfl, HG.out.trans HG1.out⟩
      · go_enter Tryz.func24, Tryz.ntmps24
        go_wp2_with fail
        refine HL.out.mono ?_
        rintro e w1 ⟨rfl, hg⟩
        go_wp2_with fail
        go_ret
        exact ⟨rfl, HG.out.trans hg⟩
    · rw [decide_eq_false h2, Bool.false_and]
      have f2 : ¬ (n1 : Int) ≤ 64 := by omega
      go_enter Tryz.func24, Tryz.ntmps24
      go_wp2_with fail
      go_ret
      exact ⟨rfl, HG.out⟩
  · rw [decide_eq_false h1, Bool.false_and]
    have f1 : ¬ (s.size : Int) ≤ 1024 := by omega
    go_enter Tryz.func24, Tryz.ntmps24
    go_wp2_with fail
    go_ret
    exact ⟨rfl, HG.out⟩
end Go.Proofs.YtjdgcgpidhljpaaGreatDoor
end

section
/- Stage 9: Encode. -/
namespace Go.Proofs.YtjdgcgpidhljpaaGreatDoor
open Go.RowKit

theorem encText_len (s : List Nat) : (Mt.encText s).length ≤ 10 + s.length := by
  unfold Mt.encText
  rw [List.length_append]
  have := Vi.enc_len (s.length : Int)
  omega
theorem encLits_len : ∀ (l : List Mt.Lit), (∀ x ∈ l, x.s.size ≤ 2000) → (Mt.encLits l).length ≤ 2020 * l.length
  | [], _ => by simp [Mt.encLits]
  | x :: r, h => by
    have i := encLits_len r (fun y hy => h y (by simp [hy]))
    have h1 := Vi.enc_len ((x.k : Nat) : Int)
    have h2 := encText_len (Pk.natsOf x.s)
    have h3 := h x (by simp)
    rw [Pk.natsOf_len] at h2
    unfold Mt.encLits at i ⊢
    rw [List.flatMap_cons, List.length_append, Mt.encLit, List.length_append, List.length_cons]
    omega
theorem encParts_len : ∀ (l : List Mt.Part), (∀ x ∈ l, x.code.length ≤ 1000) → (Mt.encParts l).length ≤ 1040 * l.length
  | [], _ => by simp [Mt.encParts]
  | x :: r, h => by
    have i := encParts_len r (fun y hy => h y (by simp [hy]))
    have h0 := Vi.enc_len x.outer
    have h1 := Vi.enc_len x.args
    have h4 := Vi.enc_len x.temps
    have h2 := encText_len x.code
    have h3 := h x (by simp)
    unfold Mt.encParts at i ⊢
    rw [List.flatMap_cons, List.length_append, Mt.encPart, List.length_append, List.length_append, List.length_append, List.length_cons]
    omega
/-- What is written before literal i. -/
def pre1 (s : ByteArray) (l : List Mt.Lit) (i : Nat) : List Nat := Mt.encText (Pk.natsOf s) ++ (Vi.enc (l.length : Int) ++ Mt.encLits (l.take i))
/-- What is written before part i. -/
def pre2 (s : ByteArray) (l : List Mt.Lit) (ps : List Mt.Part) (i : Nat) : List Nat := Mt.encText (Pk.natsOf s) ++ (Vi.enc (l.length : Int) ++ (Mt.encLits l ++ (Vi.enc (ps.length : Int) ++ Mt.encParts (ps.take i))))
theorem pre1_start (s : ByteArray) (l : List Mt.Lit) : [] ++ (Vi.enc (s.size : Int) ++ Pk.natsOf s) ++ Pk.encs [(l.length : Int)] = pre1 s l 0 := by
  simp [pre1, Mt.encText, Pk.natsOf_len, Pk.encs, Mt.encLits]
theorem pre1_step {s : ByteArray} {l : List Mt.Lit} {i : Nat} {x : Mt.Lit} (hx : l[i]? = some x) : pre1 s l i ++ Pk.encs [((x.k : Nat) : Int)] ++ (Vi.enc (x.s.size : Int) ++ Pk.natsOf x.s) = pre1 s l (i + 1) := by
  rw [pre1, pre1, List.take_add_one, hx]
  simp [Mt.encLits_snoc, Mt.encLit, Mt.encText, Pk.natsOf_len, Pk.encs]
theorem pre2_start (s : ByteArray) (l : List Mt.Lit) (ps : List Mt.Part) : pre1 s l l.length ++ Pk.encs [(ps.length : Int)] = pre2 s l ps 0 := by
  simp [pre1, pre2, Pk.encs, Mt.encParts]
theorem pre2_step {s : ByteArray} {l : List Mt.Lit} {ps : List Mt.Part} {i : Nat} {x : Mt.Part} (hx : ps[i]? = some x) (hb : ∀ y ∈ x.code, y < 256) : pre2 s l ps i ++ Pk.encs [x.outer, x.args, x.temps] ++ (Vi.enc ((Pk.strB x.code).size : Int) ++ Pk.natsOf (Pk.strB x.code)) = pre2 s l ps (i + 1) := by
  rw [pre2, pre2, List.take_add_one, hx, Mt.nats_of_str hb, Mt.strB_size]
  simp [Mt.encParts_snoc, Mt.encPart, Mt.encText, Pk.encs]
theorem pre2_end (s : ByteArray) (l : List Mt.Lit) (ps : List Mt.Part) : pre2 s l ps ps.length = Mt.enc ⟨s, l, ps⟩ := by
  rw [pre2, List.take_length]; rfl
theorem pre1_len {s : ByteArray} {l : List Mt.Lit} (hs : s.size ≤ 2000) (hl : l.length ≤ 100) (h : ∀ x ∈ l, x.s.size ≤ 2000) (i : Nat) : (pre1 s l i).length ≤ 300000 := by
  have h1 := encText_len (Pk.natsOf s)
  have h2 := Vi.enc_len (l.length : Int)
  have h3 := encLits_len (l.take i) (fun x hx => h x (List.mem_of_mem_take hx))
  have h4 : (l.take i).length ≤ l.length := by rw [List.length_take]; omega
  rw [Pk.natsOf_len] at h1
  rw [pre1, List.length_append, List.length_append]
  omega
theorem pre2_len {s : ByteArray} {l : List Mt.Lit} {ps : List Mt.Part} (hs : s.size ≤ 2000) (hl : l.length ≤ 100) (h : ∀ x ∈ l, x.s.size ≤ 2000) (hp : ps.length ≤ 100) (g : ∀ x ∈ ps, x.code.length ≤ 1000) (i : Nat) : (pre2 s l ps i).length ≤ 600000 := by
  have h1 := encText_len (Pk.natsOf s)
  have h2 := Vi.enc_len (l.length : Int)
  have h3 := encLits_len l h
  have h5 := Vi.enc_len (ps.length : Int)
  have h6 := encParts_len (ps.take i) (fun x hx => g x (List.mem_of_mem_take hx))
  have h4 : (ps.take i).length ≤ ps.length := by rw [List.length_take]; omega
  rw [Pk.natsOf_len] at h1
  rw [pre2, List.length_append, List.length_append, List.length_append, List.length_append]
  omega
/-- Numbers are written; a box that was made just before abides. -/
theorem wint_keep {W w : World} {g : Nat} {xs : List Nat} (h : WS W w g xs) (X : Array Value) (tX : TypeId) (L : List Int) (n H : Nat) (t : TypeId) (hn : L.length = n) (hH : w.heap.size + 1 = H) (hL : ∀ x ∈ L, Vi.I64 x) (hl : xs.length + 10 * L.length ≤ 1000000000000) :
    Calls Tryz.prog 26 #[.pointer (some ⟨g, 0, none⟩), .slice (some ⟨H, 0, none⟩) n n] ((w.alloc (.cells X tX)).alloc (.cells (intCellsP L).toArray t)) fun e w' => e = .returned (.tuple #[]) ∧ WS W w' g (xs ++ Pk.encs L) ∧ Blk w' w.heap.size tX X := by
  obtain ⟨Y, h1, h2⟩ := h
  have hg1 : Grew w (w.alloc (.cells X tX)) := (Grew.refl w).alloc _
  have hs : (w.alloc (.cells X tX)).heap.size = H := by rw [World.size_alloc]; exact hH
  have hyw : ¬ Y w.heap.size := fun hy => by have := (h1.1 _ hy).2; omega
  subst hn
  have hil := ints_lit (w.alloc (.cells X tX)) t L hL
  rw [hs] at hil
  refine (wint_c W.heap.size g xs Y _ _ L _ ((h1.grew hg1).grew ((Grew.refl _).alloc _)) ((h2.trans hg1).alloc _).below.size hil (fun ad e _ hy => by cases e; have := (h1.1 _ hy).2; simp only at this; omega) hl).mono fun e w' hw => ?_
  obtain ⟨he, Y2, k1, k2, k3⟩ := hw
  exact ⟨he, ⟨Y2, k1, k3.grew ((h2.trans hg1).alloc _) (fun k hk => (h1.1 k hk).1)⟩, Blk.kept ((Blk.new w tX X).grew ((Grew.refl _).alloc _)) k3 hyw⟩
/-- What Encode answers. -/
def EncPost (w : World) (m : Mt.Meth) (e : Ending) (w' : World) : Prop :=
  ∃ A c bs k, e = .returned (.tuple #[.slice A (List.length bs) c, errVal k]) ∧ BytesAt w' w'.heap.size A bs ∧ bs.length ≤ c ∧ c ≤ 9223372036854775807 ∧ Grew w w' ∧ ((Mt.fitsAll m = true ∧ bs = Mt.enc m ∧ k = 0) ∨ (Mt.fitsAll m = false ∧ bs = [] ∧ k = 1))
set_option maxRecDepth 100000 in
set_option maxHeartbeats 4000000 in
theorem encode9_c (v : MV) (w : World) (h : MethAt w v) : Calls Tryz.prog 11 #[.agg (mvCells v)] w (EncPost w v.m) := by
  have HC := hid (encodable_c v (w.alloc (.cells (mvCells v) 37)) (h.grew ((Grew.refl w).alloc _)))
  have HG := hid ((Grew.refl w).alloc (.cells (mvCells v) 37))
  have HB := hid (Blk.new w 37 (mvCells v))
  have HL := hid (h.lits.grew HG.out)
  have HP := hid (h.parts.grew HG.out)
  have hl1 := h.l1
  have hl2 := h.l2
  have hsz := h.sel
  cases hf : Mt.fitsAll v.m
  · have HF := hid hf
    rw [hf] at HC
    clear h hf HL HP HB hl1 hl2 hsz
    unfold mvCells at *
    go_enter Tryz.func11, Tryz.ntmps11
    go_wp2_with fail
    refine HC.out.mono ?_
    rintro e w1 ⟨rfl, hg⟩
    go_wp2_with fail
    go_ret2
    exact ⟨none, 0, [], 1, rfl, BytesAt.nil _ _ _, by decide, by decide, HG.out.trans hg, .inr ⟨HF.out, rfl, rfl⟩⟩
  · have HF := hid hf
    rw [hf] at HC
    have HM := hid (show v.m = ⟨v.sel, v.lits, v.vs.map (·.p)⟩ from rfl)
    have HPf : Hid (∀ x ∈ v.vs, Vi.I64 x.p.outer ∧ Vi.I64 x.p.args ∧ Vi.I64 x.p.temps) := hid (fun x hx => by
      simp only [Mt.fitsAll, Bool.and_eq_true] at hf
      have h1 := List.all_eq_true.1 hf.2.2.2.2 x.p (List.mem_map.2 ⟨x, hx, rfl⟩)
      simp only [Mt.partFits, Bool.and_eq_true, decide_eq_true_eq] at h1
      unfold Vi.I64
      omega)
    have HS1 : Hid (∀ i, (pre1 v.sel v.lits i).length ≤ 300000) := hid (fun i => pre1_len hsz hl1 (fun x hx => (h.lits.1 x hx).2) i)
    have HS2 : Hid (∀ i, (pre2 v.sel v.lits (v.vs.map (·.p)) i).length ≤ 600000) := hid (fun i => pre2_len hsz hl1 (fun x hx => (h.lits.1 x hx).2) (by rw [List.length_map]; exact hl2) (fun x hx => by
      obtain ⟨y, hy, rfl⟩ := List.mem_map.1 hx
      exact (h.parts.1 y hy).2.2.2) i)
    clear h hf
    generalize v.m = m at *
    obtain ⟨s, l, A1, c1, vs, A2, c2⟩ := v
    unfold mvCells at *
    simp only at HC HG HB HL HP hl1 hl2 hsz HM HPf HS1 HS2 ⊢
    obtain ⟨n1, en1⟩ : ∃ n1, n1 = l.length := ⟨_, rfl⟩
    obtain ⟨n2, en2⟩ : ∃ n2, n2 = vs.length := ⟨_, rfl⟩
    rw [← en1] at HC HG HB HL HP hl1 ⊢
    rw [← en2] at HC HG HB HL HP hl2 ⊢
    have EN1 := hid en1
    have EN2 := hid en2
    clear en1 en2
    go_enter Tryz.func11, Tryz.ntmps11
    go_wp2_with fail
    refine HC.out.mono ?_
    rintro e w1 ⟨rfl, hg1⟩
    generalize w.alloc (.cells #[.string s, .slice A1 n1 c1, .slice A2 n2 c2] 37) = W0 at *
    have HW := hid (WS.new hg1)
    have hgr2 := hg1.alloc (.cells #[.pointer none, .int .i64 0] 73)
    have r0 := (HB.out.grew hgr2).cell 0
    simp only [List.getElem?_toArray, List.getElem?_cons_zero] at r0
    clear hg1 hgr2
    have HT := hid (wtext_ws HW.out s (by simp; omega))
    go_wp2_with fail
    clear HC HW r0
    generalize w1.heap.size = g at *
    refine HT.out.mono ?_
    rintro e w3 ⟨rfl, hw3⟩
    have r1 := (HB.out.grew hw3.above).cell 1
    simp only [List.getElem?_toArray, List.getElem?_cons_zero, List.getElem?_cons_succ] at r1
    have HT2 := hid (wint_lit hw3 [((n1 : Nat) : Int)] 1 w3.heap.size 3 rfl rfl (by intro x hx; rw [List.mem_singleton.1 hx]; unfold Vi.I64; omega) (by
      rw [List.nil_append, List.length_append, Pk.natsOf_len]
      have := (Vi.enc_len (s.size : Int)).2
      simp only [List.length_singleton]
      omega))
    clear hw3 HT
    rw [show intCellsP [((n1 : Nat) : Int)] = [.int .i64 ((n1 : Nat) : Int)] from rfl] at HT2
    go_wp2_with fail
    clear r1
    refine HT2.out.mono ?_
    rintro e w4 ⟨rfl, hw4⟩
    rw [EN1.out, pre1_start] at hw4
    have r1 := (HB.out.grew hw4.above).cell 1
    simp only [List.getElem?_toArray, List.getElem?_cons_zero, List.getElem?_cons_succ] at r1
    have HW4 := hid hw4
    clear hw4 HT2
    go_wp2_with fail
    clear r1
    go_loopw [6, 28] (fun _ s28 wr => ∃ i : Nat, s28 = .int .i64 ((i : Nat) : Int) ∧ i ≤ n1 ∧ Hid (WS W0 wr g (pre1 s l i))) (fun _ s28 _ => n1 - (intOf s28).toNat)
    case atStart => exact ⟨0, rfl, Nat.zero_le _, HW4⟩
    case round =>
      obtain ⟨i, rfl, hi, HI⟩ := hrel
      clear HW4
      by_cases hlt : i < n1
      · have f1 : (i : Int) < n1 := by omega
        obtain ⟨ad, x, rfl, hx, q0, q1, _⟩ := lit_at HL.out HI.out.above (i := i) (by rw [← EN1.out]; exact hlt)
        have hstep := pre1_step (s := s) hx
        have hxo := HL.out.1 x (List.mem_of_getElem? hx)
        have hws := HI.out.grew ((Grew.refl wr).alloc (.cells (litCells2 x) 62))
        have hs1 := HS1.out i
        obtain ⟨k, xs⟩ := x
        unfold litCells2 at hws
        simp only at q0 q1 hstep hxo hws
        have hk : IntKind.i64.wrap ((k : Nat) : Int) = ((k : Nat) : Int) := by unfold IntKind.wrap; simp [IntKind.bits, IntKind.signed]; omega
        have HT := hid (wint_keep HI.out (litCells2 ⟨k, xs⟩) 62 [((k : Nat) : Int)] 1 (wr.heap.size + 1) 3 rfl rfl (by intro y hy; rw [List.mem_singleton.1 hy]; unfold Vi.I64; omega) (by simp only [List.length_singleton]; omega))
        rw [show intCellsP [((k : Nat) : Int)] = [.int .i64 ((k : Nat) : Int)] from rfl] at HT
        unfold litCells2 at HT
        simp only at HT
        have HSt := hid hstep
        have hlen1 : (Pk.encs [((k : Nat) : Int)]).length ≤ 10 := by
          rw [encs_one]; exact (Vi.enc_len _).2
        have HLe := hid (show (pre1 s l i ++ Pk.encs [((k : Nat) : Int)]).length + xs.size + 10 ≤ 1000000000000 by rw [List.length_append]; omega)
        clear hx hstep hxo hws hs1 hlen1
        go_wp2_with fail
        refine HT.out.mono ?_
        rintro e w5 ⟨rfl, hw5, hbx⟩
        have p1 := hbx.cell 1
        simp only [List.getElem?_toArray, List.getElem?_cons_zero, List.getElem?_cons_succ] at p1
        have HT5 := hid (wtext_ws hw5 xs HLe.out)
        clear hw5 hbx HT
        go_wp2_with fail
        refine HT5.out.mono ?_
        rintro e w6 ⟨rfl, hw6⟩
        rw [HSt.out] at hw6
        have HW6 := hid hw6
        clear hw6 HT5
        go_wp2_with fail
        go_round
        case rel => exact ⟨i + 1, by go_num, by omega, HW6⟩
        case measure => simp [intOf]; omega
      · have hin : i = n1 := by omega
        subst hin
        have r2 := (HB.out.grew HI.out.above).cell 2
        simp only [List.getElem?_toArray, List.getElem?_cons_zero, List.getElem?_cons_succ] at r2
        have hs1 := HS1.out i
        have HT2 := hid (wint_lit HI.out [((n2 : Nat) : Int)] 1 wr.heap.size 3 rfl rfl (by intro x hx; rw [List.mem_singleton.1 hx]; unfold Vi.I64; omega) (by simp only [List.length_singleton]; omega))
        rw [show intCellsP [((n2 : Nat) : Int)] = [.int .i64 ((n2 : Nat) : Int)] from rfl] at HT2
        go_wp2_with fail
        clear r2
        refine HT2.out.mono ?_
        rintro e w4 ⟨rfl, hw4⟩
        have hn2 : ((n2 : Nat) : Int) = ((vs.map (·.p)).length : Int) := by rw [List.length_map, ← EN2.out]
        rw [EN1.out, hn2, pre2_start] at hw4
        have r2 := (HB.out.grew hw4.above).cell 2
        simp only [List.getElem?_toArray, List.getElem?_cons_zero, List.getElem?_cons_succ] at r2
        have HW4 := hid hw4
        clear hw4 HT2 hn2
        go_wp2_with fail
        clear r2
        go_loopw [8, 52] (fun _ s52 wr => ∃ j : Nat, s52 = .int .i64 ((j : Nat) : Int) ∧ j ≤ n2 ∧ Hid (WS W0 wr g (pre2 s l (vs.map (·.p)) j))) (fun _ s52 _ => n2 - (intOf s52).toNat)
        case atStart => exact ⟨0, rfl, Nat.zero_le _, HW4⟩
        case round =>
          obtain ⟨j, rfl, hj, HJ⟩ := hrel
          clear HW4
          by_cases hlt : j < n2
          · have f1 : (j : Int) < n2 := by omega
            obtain ⟨ad, x, rfl, hx, q0, q1, q2, q3, _⟩ := pv_at HP.out HJ.out.above (i := j) (by rw [← EN2.out]; exact hlt)
            have hxo := HP.out.1 x (List.mem_of_getElem? hx)
            have hstep := pre2_step (s := s) (l := l) (ps := vs.map (·.p)) (i := j) (x := x.p) (by rw [List.getElem?_map, hx]; rfl) hxo.1.1
            have hi64 := HPf.out x (List.mem_of_getElem? hx)
            have hs2 := HS2.out j
            have hT := wint_keep HJ.out (pvCells x) 63 [x.p.outer, x.p.args, x.p.temps] 3 (wr.heap.size + 1) 3 rfl rfl (by
              intro y hy
              simp only [List.mem_cons, List.not_mem_nil, or_false] at hy
              rcases hy with rfl | rfl | rfl
              · exact hi64.1
              · exact hi64.2.1
              · exact hi64.2.2) (by simp only [List.length_cons, List.length_nil]; omega)
            rw [show intCellsP [x.p.outer, x.p.args, x.p.temps] = [.int .i64 x.p.outer, .int .i64 x.p.args, .int .i64 x.p.temps] from rfl] at hT
            have hlen1 : (Pk.encs [x.p.outer, x.p.args, x.p.temps]).length ≤ 30 := (Pk.encs_len _).2
            have HT := hid hT
            have HSt := hid hstep
            have HXo := hid hxo
            have HLe := hid (show (pre2 s l (vs.map (·.p)) j ++ Pk.encs [x.p.outer, x.p.args, x.p.temps]).length + (Pk.strB x.p.code).size + 10 ≤ 1000000000000 by
              have := hxo.2.2.2
              rw [List.length_append, Mt.strB_size]; omega)
            clear hx hstep hxo hs2 hlen1 hT hi64
            obtain ⟨⟨po, pa, pt, code⟩, Ac, cc⟩ := x
            unfold pvCells at HT
            simp only at q0 q1 q2 q3 HT HSt HXo HLe
            have HNu : Hid (∀ w', Grew W0 w' → (convert 26 9 (.slice Ac code.length cc)).run Tryz.prog w' = .ok (.string (Pk.strB code)) w') := hid (fun w' hg => conv6 Ac cc code w' (NumsAt.of_bytes (HXo.out.1.grew hg)))
            generalize code.length = cl at *
            go_wp2_with fail
            refine HT.out.mono ?_
            rintro e w5 ⟨rfl, hw5, hbx⟩
            have p3 := hbx.cell 3
            simp only [List.getElem?_toArray, List.getElem?_cons_zero, List.getElem?_cons_succ] at p3
            have hcv := HNu.out w5 hw5.above
            have HT5 := hid (wtext_ws hw5 (Pk.strB code) HLe.out)
            clear hw5 hbx HT
            go_wp2_with fail
            refine HT5.out.mono ?_
            rintro e w6 ⟨rfl, hw6⟩
            rw [HSt.out] at hw6
            have HW6 := hid hw6
            clear hw6 HT5
            go_wp2_with fail
            go_round
            case rel => exact ⟨j + 1, by go_num, by omega, HW6⟩
            case measure => simp [intOf]; omega
          · have hjn : j = n2 := by omega
            subst hjn
            have hs2 := HS2.out j
            have hj2 : j = (vs.map (·.p)).length := by rw [List.length_map]; exact EN2.out
            have hfull : pre2 s l (vs.map (·.p)) j = Mt.enc m := by
              rw [HM.out, ← pre2_end s l (vs.map (·.p)), ← hj2]
            have hbytes : ∀ x ∈ pre2 s l (vs.map (·.p)) j, x < 256 := by
              rw [hfull]
              refine Mt.enc_bytes ?_
              rw [HM.out]
              intro p hp
              obtain ⟨y, hy, rfl⟩ := List.mem_map.1 hp
              exact (HP.out.1 y hy).1.1
            have HFu := hid hfull
            have HBy := hid hbytes
            have HAb := hid HJ.out.above
            have HAll := hid (all_ws HJ.out (by omega))
            clear HJ hs2 hj2 hfull hbytes HS1 HS2 HPf HM HP HL HI
            generalize pre2 s l (vs.map (·.p)) j = P at *
            go_wp2_with fail
            refine HAll.out.mono ?_
            rintro e w7 ⟨A, c, rfl, hR, hg7⟩
            have HR := hid hR
            have HG7 := hid hg7
            clear hR hg7
            go_wp2_with fail
            go_ret2
            have hcase := Row.cases HR.out
            exact ⟨A, c, P, 0, rfl, AllPost.bytes (w := wr) HBy.out HR.out, hcase.2.1, hcase.2.2.1, HG.out.trans (HAb.out.trans HG7.out), .inl ⟨HF.out, HFu.out, rfl⟩⟩
end Go.Proofs.YtjdgcgpidhljpaaGreatDoor
end

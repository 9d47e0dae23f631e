/- Stage 11: sure. -/
import Derived.Test.YtcfknfiddadgbaaDoorOcI
import Derived.Test.YtcfknfiddadgbaaDoorOcH
namespace Go.Proofs.YtcfknfiddadgbaaDoor
open Go.RowKit

/-- What 'sure' makes. -/
def sUp : List Nat := [15, 10, 12, 8]
def sO1 : Ob.Obj := ⟨6, 0, [⟨0, 0, 1⟩], ⟨#[]⟩⟩
def sO2 : Ob.Obj := ⟨5, 3, [], ⟨#[97, 98]⟩⟩
def sO3 : Ob.Obj := ⟨6, 0, [⟨3, 7, 3⟩], ⟨#[]⟩⟩
theorem sUp_valid : La.valid sUp = true := by decide +kernel
theorem sO1_may : Ob.mayB 4 sO1 = true := by decide +kernel
theorem sO2_may : Ob.mayB 4 sO2 = true := by decide +kernel
theorem nil_not : La.valid [] = false := by decide +kernel
theorem sPut1 : Ob.putCode sUp [sO1, sO2] 0 0 3 ⟨0, 0, 0⟩ = 11 := by decide +kernel
theorem sPut2 : Ob.putCode sUp [sO1, sO2] 0 0 1 ⟨3, 7, 2⟩ = 0 := by decide +kernel
theorem sJoin : La.joinOf sUp 2 1 = 3 := by decide +kernel
theorem sPut3 : Ob.put sUp [sO1, sO2] 0 0 1 ⟨3, 7, 2⟩ = [sO3, sO2] := by
  rw [Ob.put, if_pos sPut2]
  have e : Ob.putV sUp 1 ⟨3, 7, 2⟩ = ⟨3, 7, 3⟩ := by rw [Ob.putV, sJoin]
  rw [e]
  rfl
theorem sHash : Ob.hash [sO3, sO2] 1 = 0 := by decide +kernel
theorem cells_one {α : Type} {s : Nat} {f : α → List Value} {w : World} {H : Nat} {e : TypeId} {x : α} (h : Blk w H e (f x).toArray) : CellsAt s f w ⟨H, 0, none⟩ [x] := fun i v hi j u hu => by
  have h0 : i = 0 := by
    have := (List.getElem?_eq_some_iff.1 hi).1
    simpa using this
  subst h0
  obtain rfl : x = v := by simpa using hi
  rw [Nat.zero_mul, Nat.zero_add]
  exact blk_row h _ rfl j u hu
theorem vals_one1 {w : World} {H : Nat} {e : TypeId} {x : Ob.Val} (h : Blk w H e (valF x).toArray) (hx : ValOk x) : ValsAt w (some ⟨H, 0, none⟩) [x] := ⟨by simpa using hx, fun _ => ⟨_, rfl, h.lt, cells_one h⟩⟩
theorem objs_one {w : World} {H : Nat} {e : TypeId} {x : OV} (h : Blk w H e (ovF x).toArray) (hx : OvOk w x) : ObjsAt w (some ⟨H, 0, none⟩) [x] := ⟨by simpa using hx, fun _ => ⟨_, rfl, h.lt, cells_one h⟩⟩
theorem new_ok {w w' : World} {up : List Nat} {l : List Ob.Obj} {e : Ending} (h : NewPost w up l e w') (h1 : La.valid up = true) (h2 : l.all (Ob.mayB up.length) = true) : ∃ s, e = .returned (.tuple #[.pointer (some ⟨s.g, 0, none⟩), .nilIface]) ∧ StoreAt w' w.heap.size s ∧ s.up = up ∧ objsI s.its = l ∧ Grew w w' := by
  unfold NewPost at h
  rwa [if_pos h1, if_pos h2] at h
theorem new_lat {w w' : World} {up : List Nat} {l : List Ob.Obj} {e : Ending} (h : NewPost w up l e w') (h1 : La.valid up = false) : e = .returned (.tuple #[.pointer none, .iface 77 (.int .i64 7)]) ∧ Grew w w' := by
  unfold NewPost at h
  rwa [if_neg (by rw [h1]; decide)] at h
theorem new_may {w w' : World} {up : List Nat} {l : List Ob.Obj} {e : Ending} (h : NewPost w up l e w') (h1 : La.valid up = true) (h2 : l.all (Ob.mayB up.length) = false) : e = .returned (.tuple #[.pointer none, .iface 77 (.int .i64 1)]) ∧ Grew w w' := by
  unfold NewPost at h
  rwa [if_pos h1, if_neg (by rw [h2]; decide)] at h
theorem objsI_get {l : List IT} {i : Nat} {o : Ob.Obj} (h : (objsI l)[i]? = some o) : ∃ x, l[i]? = some x ∧ x.o = o := by
  rw [objsI, List.getElem?_map] at h
  cases hx : l[i]? with
  | none => rw [hx] at h; cases h
  | some x => rw [hx] at h; exact ⟨x, rfl, Option.some.inj h⟩
/-- The store after a call that changes it. -/
theorem own_grew {w0 w w' : World} {B : Nat} {s : SV} (h : StoreAt w B s) (hB : w0.heap.size ≤ B) (hg : Grew w0 w) (hk : Kept (Owns s) w w') : Grew w0 w' := hk.grew hg (fun _ ho => Nat.le_trans hB (h.owns ho).1)
set_option maxRecDepth 100000 in
set_option maxHeartbeats 8000000 in
theorem sure_c (w : World) (hE : HandleAt w) : Calls Tryd.prog 13 #[] w fun e w' => e = .returned (.bool true) ∧ Grew w w' := by
  have HE := hid hE
  clear hE
  go_enter Tryd.func13, Tryd.ntmps13
  go_wp2_with (go_at_call 33; refine (square_c w).mono ?_; rintro e w1 ⟨gu, rfl, hu, hg1⟩; have HU := hid hu; have HG1 := hid hg1; clear hu hg1)
  have B1 := Blk.new w1 39 #[.int .u8 0, .int .i64 0, .int .i64 1]
  have G1 := (Grew.refl w1).alloc (.cells #[.int .u8 0, .int .i64 0, .int .i64 1] 39)
  have e1 : (w1.alloc (.cells #[.int .u8 0, .int .i64 0, .int .i64 1] 39)).heap.size = w1.heap.size + 1 := World.size_alloc _ _
  have B2 := Blk.new (w1.alloc (.cells #[.int .u8 0, .int .i64 0, .int .i64 1] 39)) 28 #[.int .i64 6, .int .i64 0, .slice (some ⟨w1.heap.size, 0, none⟩) 1 1, .string ⟨#[]⟩]
  have G2 := (Grew.refl (w1.alloc (.cells #[.int .u8 0, .int .i64 0, .int .i64 1] 39))).alloc (.cells #[.int .i64 6, .int .i64 0, .slice (some ⟨w1.heap.size, 0, none⟩) 1 1, .string ⟨#[]⟩] 28)
  rw [e1] at B2
  have B1' := B1.grew G2
  have HG2 := hid (HG1.out.trans (G1.trans G2))
  generalize (w1.alloc (.cells #[.int .u8 0, .int .i64 0, .int .i64 1] 39)).alloc (.cells #[.int .i64 6, .int .i64 0, .slice (some ⟨w1.heap.size, 0, none⟩) 1 1, .string ⟨#[]⟩] 28) = w2 at *
  have hu2 := HU.out.grew (G1.trans G2)
  clear B1 G1 G2 e1
  have hob : ObjsAt w2 (some ⟨w1.heap.size + 1, 0, none⟩) [⟨sO1, some ⟨w1.heap.size, 0, none⟩, 1⟩] := objs_one B2 ⟨vals_one1 (x := ⟨0, 0, 1⟩) B1' ⟨by decide, ⟨by decide, by decide⟩, ⟨by decide, by decide⟩⟩, (by show N64 6; exact ⟨by decide, by decide⟩), (by show N64 0; exact ⟨by decide, by decide⟩), Nat.le_refl _⟩
  refine (new_c (some ⟨gu, 0, none⟩) 4 sUp (some ⟨w1.heap.size + 1, 0, none⟩) 1 [⟨sO1, some ⟨w1.heap.size, 0, none⟩, 1⟩] w2 (by decide) hu2 hob (by simp)).mono ?_
  intro e w3 hpost
  obtain ⟨s, rfl, hs, hsu, hsl, hg3⟩ := new_ok hpost sUp_valid (by show [sO1].all (Ob.mayB 4) = true; rw [List.all_cons, sO1_may]; rfl)
  have HS := hid hs
  have HSu := hid hsu
  have HSl := hid (show objsI s.its = [sO1] from hsl)
  have HG3 := hid (HG2.out.trans hg3)
  have HBw := hid (show w.heap.size ≤ w2.heap.size from HG2.out.below.size)
  clear hpost hs hsu hsl hg3 hob hu2 B1' B2 HU HG1
  obtain ⟨sg, esg⟩ : ∃ sg, sg = s.g := ⟨_, rfl⟩
  rw [← esg]
  have ESG := hid esg
  clear esg
  go_upto_region 2 with fail
  go_wp2_with fail
  refine (new_c none 0 [] none 0 [] w3 (by decide) (BytesAt.nil _ _ _) (ObjsAt.nil _ _) (by decide)).mono ?_
  intro e w4 hpost
  obtain ⟨rfl, hg4⟩ := new_lat hpost nil_not
  have HS4 := hid (HS.out.grew hg4)
  have HG4 := hid (HG3.out.trans hg4)
  clear hpost hg4 HS HG3
  go_wp2_with fail
  rw [ESG.out]
  refine (addM_c s w2.heap.size ⟨sO2, none, 0⟩ w4 HS4.out ⟨ValsAt.nil _ _, (by show N64 5; exact ⟨by decide, by decide⟩), (by show N64 3; exact ⟨by decide, by decide⟩), Nat.le_refl _⟩ (fun h0 => absurd h0 (by decide)) true (by rw [HSu.out]; exact sO2_may) (by have h1 := congrArg List.length HSl.out; rw [objsI_len] at h1; rw [h1]; decide)).mono ?_
  intro e w5 hpost
  rw [if_pos rfl] at hpost
  obtain ⟨rfl, s2, h1, h2, h3, h3b, h4, h5, h6⟩ := hpost
  have hlen : s.its.length = 1 := by have h1 := congrArg List.length HSl.out; rw [objsI_len] at h1; exact h1
  have HS5 := hid h1
  have HSu5 := hid (show s2.up = sUp by rw [h3, HSu.out])
  have HSl5 := hid (show objsI s2.its = [sO1, sO2] by rw [h4, HSl.out]; rfl)
  have HG5 := hid (own_grew HS4.out HBw.out HG4.out h5)
  rw [hlen]
  rw [← h2]
  obtain ⟨sg2, esg⟩ : ∃ sg2, sg2 = s2.g := ⟨_, rfl⟩
  rw [← esg]
  have ESG2 := hid esg
  clear hlen h1 h2 h3 h3b h4 h5 h6 HS4 HSu HSl HG4 ESG esg
  go_upto_region 6 with fail
  go_wp2_with fail
  rw [ESG2.out]
  refine (put_c s2 w2.heap.size 0 0 3 ⟨0, 0, 0⟩ w5 HS5.out).mono ?_
  intro e w6 hpost
  obtain ⟨s3, rfl, h1, h2, h3, h3b, h4, h5, h6⟩ := hpost
  rw [HSu5.out, HSl5.out, sPut1]
  rw [HSu5.out, HSl5.out] at h4
  have HS6 := hid h1
  have HSu6 := hid (show s3.up = sUp by rw [h3, HSu5.out])
  have HSl6 := hid (show objsI s3.its = [sO1, sO2] by rw [h4, Ob.put_bad (by rw [sPut1]; decide)])
  have HG6 := hid (own_grew HS5.out HBw.out HG5.out h5)
  rw [← h2]
  obtain ⟨sg3, esg⟩ : ∃ sg3, sg3 = s3.g := ⟨_, rfl⟩
  rw [← esg]
  have ESG3 := hid esg
  clear h1 h2 h3 h3b h4 h5 h6 HS5 HSu5 HSl5 HG5 ESG2 esg
  go_upto_region 7 with fail
  go_wp2_with fail
  rw [ESG3.out]
  refine (put_c s3 w2.heap.size 0 0 1 ⟨3, 7, 2⟩ w6 HS6.out).mono ?_
  intro e w7 hpost
  obtain ⟨s4, rfl, h1, h2, h3, h3b, h4, h5, h6⟩ := hpost
  rw [HSu6.out, HSl6.out, sPut2, show errVal 0 = .nilIface from rfl]
  rw [HSu6.out, HSl6.out] at h4
  have HS7 := hid h1
  have HSl7 := hid (show objsI s4.its = [sO3, sO2] by rw [h4, sPut3])
  have HG7 := hid (own_grew HS6.out HBw.out HG6.out h5)
  rw [← h2]
  obtain ⟨sg4, esg⟩ : ∃ sg4, sg4 = s4.g := ⟨_, rfl⟩
  rw [← esg]
  have ESG4 := hid esg
  clear h1 h2 h3 h3b h4 h5 h6 HS6 HSu6 HSl6 HG6 ESG3 esg
  obtain ⟨x0, hx0, hxo0⟩ := objsI_get (l := s4.its) (i := 0) (o := sO3) (by rw [HSl7.out]; rfl)
  obtain ⟨x1, hx1, hxo1⟩ := objsI_get (l := s4.its) (i := 1) (o := sO2) (by rw [HSl7.out]; rfl)
  have hh1 : x1.h = 0 := by rw [HS7.out.hs 1 x1 hx1, HSl7.out, sHash]
  have hlen : s4.its.length = 2 := by have h1 := congrArg List.length HSl7.out; rw [objsI_len] at h1; exact h1
  have HGet := hid (fun W (hW : Grew w7 W) => get_c s4 w2.heap.size 0 x0 W (HS7.out.grew hW) hx0)
  have HHash := hid (fun W (hW : Grew w7 W) => hash_c s4 w2.heap.size 1 x1 W (HS7.out.grew hW) hx1)
  have HNo := hid (fun W (hW : Grew w7 W) => get_no s4 w2.heap.size 2 W (HS7.out.grew hW) (by rw [hlen]; rfl))
  have HLen := hid (fun W (hW : Grew w7 W) => len_c s4 w2.heap.size W (HS7.out.grew hW))
  rw [hxo0, ← ESG4.out] at HGet
  rw [hh1, ← ESG4.out] at HHash
  rw [← ESG4.out] at HNo
  rw [hlen, ← ESG4.out] at HLen
  clear hx0 hxo0 hx1 hxo1 hh1 hlen HS7 HSl7 ESG4
  go_upto_region 8 with fail
  go_wp2_with fail
  refine (HGet.out w7 (Grew.refl _)).mono ?_
  rintro e w8 ⟨bf, rfl, hbf, hbk, hg8⟩
  simp only [sO3, List.length_cons, List.length_nil, Nat.zero_add] at hbk ⊢
  go_upto_region 9 with fail
  have B9 := Blk.new w8 28 #[.int .i64 6, .int .i64 0, .slice (some ⟨bf, 0, none⟩) 1 1, .string ⟨#[]⟩]
  have G9 := (Grew.refl w8).alloc (.cells #[.int .i64 6, .int .i64 0, .slice (some ⟨bf, 0, none⟩) 1 1, .string ⟨#[]⟩] 28)
  have HF9 := hid (hbk.grew G9)
  generalize w8.alloc (.cells #[.int .i64 6, .int .i64 0, .slice (some ⟨bf, 0, none⟩) 1 1, .string ⟨#[]⟩] 28) = w9 at *
  generalize w8.heap.size = go at *
  have HB9 := hid B9
  have HG9 := hid (hg8.trans G9)
  clear B9 G9 hbk hbf hg8
  go_upto_region 10 with (go_at_call 7; refine (HHash.out w9 HG9.out).mono ?_; rintro e w10 ⟨rfl, hg10⟩)
  have HG10 := hid (HG9.out.trans hg10)
  have HB10 := hid (HB9.out.grew hg10)
  have HF10 := hid (HF9.out.grew hg10)
  clear hg10 HB9 HG9 HF9 HHash HGet
  go_wp2_with fail
  refine (HNo.out w10 HG10.out).mono ?_
  rintro e w11 ⟨rfl, hg11⟩
  have HG11 := hid (HG10.out.trans hg11)
  have HB11 := hid (HB10.out.grew hg11)
  have HF11 := hid (HF10.out.grew hg11)
  clear hg11 HB10 HG10 HF10 HNo
  unfold zeroO
  go_upto_region 11 with fail
  have G12 := (Grew.refl w11).alloc (.cells #[.int .i64 0, .int .i64 0, .slice none 0 0, .string ⟨#[]⟩] 28)
  have HG12 := hid (HG11.out.trans G12)
  have HB12 := hid (HB11.out.grew G12)
  have HF12 := hid (HF11.out.grew G12)
  generalize w11.alloc (.cells #[.int .i64 0, .int .i64 0, .slice none 0 0, .string ⟨#[]⟩] 28) = w12 at *
  clear G12 HG11 HB11 HF11
  have hE12 : HandleAt w12 := HE.out.grew (HG7.out.trans HG12.out)
  have HN7 : Hid (Calls Tryd.prog 9 #[.iface 77 (.int .i64 7)] w12 fun e w' => e = .returned (.int .i64 7) ∧ Grew w12 w') := hid (num_c 7 w12 hE12)
  clear hE12
  go_wp2_with fail
  refine HN7.out.mono ?_
  rintro e w13 ⟨rfl, hg13⟩
  have HG13 := hid (HG12.out.trans hg13)
  have HB13 := hid (HB12.out.grew hg13)
  have HF13 := hid (HF12.out.grew hg13)
  have hN11 := num_c 11 w13 (HE.out.grew (HG7.out.trans HG13.out))
  clear hg13 HG12 HB12 HF12 HN7
  go_wp2_with fail
  refine hN11.mono ?_
  rintro e w14 ⟨rfl, hg14⟩
  have HG14 := hid (HG13.out.trans hg14)
  have HB14 := hid (HB13.out.grew hg14)
  have HF14 := hid (HF13.out.grew hg14)
  have p2 := HB14.out.cell 2
  have pl := HB14.out.lt
  have f0 := HF14.out.cell 0
  have f1 := HF14.out.cell 1
  have f2 := HF14.out.cell 2
  have fl := HF14.out.lt
  simp only [List.flatMap_cons, List.flatMap_nil, List.append_nil, valF, List.getElem?_toArray, List.getElem?_cons_zero, List.getElem?_cons_succ] at p2 f0 f1 f2
  have hN3 := num_c 3 w14 (HE.out.grew (HG7.out.trans HG14.out))
  clear hg14 HG13 HB13 HF13 hN11
  go_wp2_with fail
  refine hN3.mono ?_
  rintro e w15 ⟨rfl, hg15⟩
  have HG15 := hid (HG14.out.trans hg15)
  clear p2 pl f0 f1 f2 fl hN3 hg15
  go_wp2_with fail
  refine (HLen.out w15 HG15.out).mono ?_
  rintro e w16 ⟨rfl, hg16⟩
  go_wp2_with fail
  go_ret
  exact ⟨rfl, (HG7.out.trans HG15.out).trans hg16⟩
end Go.Proofs.YtcfknfiddadgbaaDoor

/- Stage 10: isVar, areVars, isLike, isNew. -/
import Derived.Test.YtjladeiecokpfaaGreatDoorCsI
namespace Go.Proofs.YtjladeiecokpfaaGreatDoor
open Go.RowKit

theorem bytes_eq10 (s : ByteArray) (l : List UInt8) : (s.toList == l) = (Pk.natsOf s == l.map UInt8.toNat) := by
  rw [Bool.eq_iff_iff, beq_iff_eq, beq_iff_eq, ByteArray.toList_eq]
  unfold Pk.natsOf
  constructor
  · intro h; rw [h]
  · intro h
    exact (List.map_inj_right (fun a b hab => UInt8.toNat_inj.1 hab)).1 h
theorem reserved_or (s : ByteArray) : Cs.reserved.contains (Pk.natsOf s) = ((s.toList == [115, 101, 108, 102]) || ((s.toList == [115, 117, 112, 101, 114]) || ((s.toList == [110, 105, 108]) || ((s.toList == [116, 114, 117, 101]) || (s.toList == [102, 97, 108, 115, 101]))))) := by
  rw [bytes_eq10, bytes_eq10, bytes_eq10, bytes_eq10, bytes_eq10]
  simp only [Cs.reserved, List.contains_cons, List.contains_nil, Bool.or_false, List.map_cons, List.map_nil]
  rfl
set_option maxRecDepth 100000 in
set_option maxHeartbeats 2000000 in
theorem cisVar_c (s : ByteArray) (hs : s.size ≤ 1000000) (w : World) :
    Calls Tryz.prog 74 #[.string s] w fun e w' => e = .returned (.bool (Cs.varOk s)) ∧ Grew w w' := by
  have HN := hid (fun w' => cisName_c s smallsB 97 122 smalls_at hs w')
  unfold Cs.varOk
  unfold smallsB at HN
  rw [reserved_or]
  generalize Cs.nameOk 97 122 s = q at *
  cases h1 : (s.toList == [115, 101, 108, 102])
  · cases h2 : (s.toList == [115, 117, 112, 101, 114])
    · cases h3 : (s.toList == [110, 105, 108])
      · cases h4 : (s.toList == [116, 114, 117, 101])
        · cases h5 : (s.toList == [102, 97, 108, 115, 101])
          · go_enter Tryz.func74, Tryz.ntmps74
            go_wp2_with fail
            refine (HN.out _).mono ?_
            rintro e w1 ⟨rfl, hg⟩
            have HG := hid hg
            clear hg
            go_wp2_with fail
            go_ret
            exact ⟨by cases q <;> rfl, HG.out⟩
          · go_enter Tryz.func74, Tryz.ntmps74
            go_wp2_with fail
            go_ret
            exact ⟨by cases q <;> rfl, Grew.refl _⟩
        · go_enter Tryz.func74, Tryz.ntmps74
          go_wp2_with fail
          go_ret
          exact ⟨by cases q <;> rfl, Grew.refl _⟩
      · go_enter Tryz.func74, Tryz.ntmps74
        go_wp2_with fail
        go_ret
        exact ⟨by cases q <;> rfl, Grew.refl _⟩
    · go_enter Tryz.func74, Tryz.ntmps74
      go_wp2_with fail
      go_ret
      exact ⟨by cases q <;> rfl, Grew.refl _⟩
  · go_enter Tryz.func74, Tryz.ntmps74
    go_wp2_with fail
    go_ret
    exact ⟨by cases q <;> rfl, Grew.refl _⟩
set_option maxHeartbeats 1000000 in
theorem otherVar_c (s : ByteArray) (hs : s.size ≤ 1000000) (w : World) :
    Calls Tryz.prog 73 (#[.string s] ++ #[]) w fun e w' => e = .returned (.bool (!(Cs.varOk s))) ∧ Grew w w' := by
  have HN := hid (fun w' => cisVar_c s hs w')
  generalize Cs.varOk s = q at *
  show Calls Tryz.prog 73 #[.string s] w _
  go_enter Tryz.func73, Tryz.ntmps73
  go_wp2_with fail
  refine (HN.out _).mono ?_
  rintro e w1 ⟨rfl, hg⟩
  have HG := hid hg
  clear hg
  go_wp2_with fail
  go_ret
  exact ⟨rfl, HG.out⟩
/-- Variables that a class may have, with those above it. -/
def VarsOk (l : List ByteArray) : Prop := l.length ≤ 16 ∧ (∀ s ∈ l, Cs.varOk s = true) ∧ l.Nodup
set_option maxRecDepth 100000 in
set_option maxHeartbeats 2000000 in
theorem areVars_c (A : Option Addr) (c : Nat) (l : List ByteArray) (b : Bool) (hb : b = true ↔ VarsOk l) (w : World) (h : StrsAt w w.heap.size A l) (hl : l.length ≤ 1000000) (hs : ∀ s ∈ l, s.size ≤ 2000) :
    Calls Tryz.prog 53 #[.slice A l.length c] w fun e w' => e = .returned (.bool b) ∧ Grew w w' := by
  have HB := hid hb
  have HC := hid (fun (w' : World) (hg : Grew w w') => anyStr_c 73 #[] (enters_of Tryz.func73 (by kernel_rfl) rfl) (fun s => !(Cs.varOk s)) A c l w' (h.grew hg) hl (fun s hm W _ => otherVar_c s (by have := hs s hm; omega) W))
  have HD := hid (fun (d : Bool) (hd : d = true ↔ l.Nodup) (w' : World) (hg : Grew w w') => disStr_c A c l d hd w' (h.grew hg) hl hs)
  have HV := hid (show (l.any fun s => !(Cs.varOk s)) = false ↔ ∀ s ∈ l, Cs.varOk s = true by
    rw [List.any_eq_false]
    exact ⟨fun hh s hm => by have := hh s hm; simpa using this, fun hh s hm => by rw [hh s hm]; decide⟩)
  clear h hs hb
  generalize (l.any fun s => !(Cs.varOk s)) = v at *
  by_cases h16 : l.length ≤ 16
  · have f1 : ((l.length : Nat) : Int) ≤ 16 := by omega
    cases v
    · obtain ⟨d, hd⟩ : ∃ d : Bool, d = true ↔ l.Nodup := ⟨tru l.Nodup, tru_iff _⟩
      have HE := hid (show b = d by
        rw [Bool.eq_iff_iff, HB.out, hd]
        exact ⟨fun hh => hh.2.2, fun hh => ⟨h16, HV.out.1 rfl, hh⟩⟩)
      have HD2 := hid (HD.out d hd)
      clear HD HV HB hd hl h16
      generalize l.length = n at *
      go_enter Tryz.func53, Tryz.ntmps53
      go_wp2_with fail
      refine (HC.out _ (Grew.refl _)).mono ?_
      rintro e w1 ⟨rfl, hg⟩
      have HG := hid hg
      clear hg
      go_wp2_with fail
      refine (HD2.out _ HG.out).mono ?_
      rintro e w2 ⟨rfl, hg⟩
      have HG2 := hid (HG.out.trans hg)
      clear hg
      go_wp2_with fail
      go_ret
      exact ⟨by rw [HE.out]; rfl, HG2.out⟩
    · have HE := hid (show b = false by
        rw [← Bool.not_eq_true, HB.out]
        rintro ⟨_, h2, _⟩
        have := HV.out.2 h2
        cases this)
      clear HD HV HB hl h16
      generalize l.length = n at *
      go_enter Tryz.func53, Tryz.ntmps53
      go_wp2_with fail
      refine (HC.out _ (Grew.refl _)).mono ?_
      rintro e w1 ⟨rfl, hg⟩
      have HG := hid hg
      clear hg
      go_wp2_with fail
      go_ret
      exact ⟨by rw [HE.out]; rfl, HG.out⟩
  · have f1 : ¬ ((l.length : Nat) : Int) ≤ 16 := by omega
    have HE := hid (show b = false by
      rw [← Bool.not_eq_true, HB.out]
      rintro ⟨h1, _⟩
      exact h16 h1)
    clear HC HD HV HB h16 hl
    generalize l.length = n at *
    go_enter Tryz.func53, Tryz.ntmps53
    go_wp2_with fail
    go_ret
    exact ⟨by rw [HE.out]; rfl, Grew.refl _⟩
set_option maxRecDepth 100000 in
set_option maxHeartbeats 2000000 in
theorem isLike_c (u v : CV) (w : World) :
    Calls Tryz.prog 51 #[.agg (cvCells u), .agg (cvCells v)] w fun e w' => e = .returned (.bool (decide (u.c.name = v.c.name ∧ u.c.sup = v.c.sup ∧ u.c.vars = []))) ∧ Grew w w' := by
  have hz := str_beq10 u.c.name v.c.name
  have HE := hid (show decide (u.c.name = v.c.name ∧ u.c.sup = v.c.sup ∧ u.c.vars = []) = (decide (u.c.name = v.c.name) && (decide (u.c.sup = v.c.sup) && decide (u.c.vars.length = 0))) by
    rw [Bool.eq_iff_iff]
    simp [List.length_eq_zero_iff])
  rw [HE.out]
  have HG := hid (((Grew.refl w).alloc (.cells (cvCells u) 60)).alloc (.cells (cvCells v) 60))
  clear HE
  obtain ⟨⟨un, us, uv, um⟩, A1, c1, A2, c2⟩ := u
  obtain ⟨⟨vn, vs, vv, vm⟩, B1, d1, B2, d2⟩ := v
  unfold cvCells at HG ⊢
  simp only at HG hz ⊢
  generalize decide (un = vn) = b at *
  generalize uv.length = nu at *
  generalize um.length = mu at *
  generalize vv.length = nv at *
  generalize vm.length = mv at *
  cases b
  · go_enter Tryz.func51, Tryz.ntmps51
    go_wp2_with fail
    go_ret
    exact ⟨rfl, HG.out⟩
  · by_cases h1 : us = vs
    · subst h1
      by_cases h2 : nu = 0
      · subst h2
        go_enter Tryz.func51, Tryz.ntmps51
        go_wp2_with fail
        go_ret
        exact ⟨by simp, HG.out⟩
      · have f2 : ¬ ((nu : Nat) : Int) = 0 := by omega
        have HF := hid (decide_eq_false h2)
        rw [HF.out]
        clear HF
        go_enter Tryz.func51, Tryz.ntmps51
        go_wp2_with fail
        go_ret
        exact ⟨by simp [h2], HG.out⟩
    · have HF := hid (decide_eq_false h1)
      rw [HF.out]
      clear HF
      go_enter Tryz.func51, Tryz.ntmps51
      go_wp2_with fail
      go_ret
      exact ⟨by simp, HG.out⟩
/-- May it be a class with number c? -/
def NewOk (x : Cs.Cls) (c : Int) : Prop := Cs.nameOk 65 90 x.name = true ∧ (x.sup = 0 ∨ (11 ≤ x.sup ∧ x.sup ≤ c - 1))
set_option maxRecDepth 100000 in
set_option maxHeartbeats 2000000 in
theorem isNew_c (u : CV) (c : Nat) (hc : c ≤ 1000000) (hs : u.c.name.size ≤ 1000000) (b : Bool) (hb : b = true ↔ NewOk u.c ((c : Nat) : Int)) (w : World) :
    Calls Tryz.prog 52 #[.agg (cvCells u), .int .i64 ((c : Nat) : Int)] w fun e w' => e = .returned (.bool b) ∧ Grew w w' := by
  have HN := hid (fun w' => cisName_c u.c.name capitalsB 65 90 capitals_at hs w')
  have HW := hid (cwithin_c u.c.sup 11 (((c : Nat) : Int) - 1))
  have HB : Hid (b = (Cs.nameOk 65 90 u.c.name && (decide (u.c.sup = 0) || (decide (11 ≤ u.c.sup) && decide (u.c.sup ≤ ((c : Nat) : Int) - 1))))) := hid (by
    rw [Bool.eq_iff_iff, hb]
    unfold NewOk
    simp)
  have HG := hid ((Grew.refl w).alloc (.cells (cvCells u) 60))
  rw [HB.out]
  clear hb HB hs
  unfold capitalsB at HN
  obtain ⟨⟨un, us, uv, um⟩, A1, c1, A2, c2⟩ := u
  unfold cvCells at HG ⊢
  simp only at HG HN HW ⊢
  generalize Cs.nameOk 65 90 un = p at *
  generalize uv.length = nu at *
  generalize um.length = mu at *
  have hbx := Blk.new w 60 #[.string un, .int .i64 us, .slice A1 nu c1, .slice A2 mu c2]
  have hlt := hbx.lt
  have HBx := hid hbx
  obtain ⟨wb, hwb⟩ : ∃ wb, wb = w.alloc (.cells #[.string un, .int .i64 us, .slice A1 nu c1, .slice A2 mu c2] 60) := ⟨_, rfl⟩
  rw [← hwb] at HBx HG hlt
  have q0 := HBx.out.cell 0
  simp only [List.getElem?_toArray, List.getElem?_cons_zero] at q0
  clear hbx
  cases p
  · go_enter Tryz.func52, Tryz.ntmps52
    go_wp2_with fail
    rw [← hwb]
    refine (HN.out _).mono ?_
    rintro e w1 ⟨rfl, hg⟩
    have HG1 := hid (HG.out.trans hg)
    clear hg hwb
    go_wp2_with fail
    go_ret
    exact ⟨rfl, HG1.out⟩
  · by_cases h0 : us = 0
    · subst h0
      go_enter Tryz.func52, Tryz.ntmps52
      go_wp2_with fail
      rw [← hwb]
      refine (HN.out _).mono ?_
      rintro e w1 ⟨rfl, hg⟩
      have HG1 := hid (HG.out.trans hg)
      have r1 := (HBx.out.grew hg).cell 1
      have r2 := (HBx.out.grew hg).lt
      simp only [List.getElem?_toArray, List.getElem?_cons_zero, List.getElem?_cons_succ] at r1
      clear hg hwb
      go_wp2_with fail
      go_ret
      exact ⟨by simp, HG1.out⟩
    · have HF := hid (decide_eq_false h0)
      rw [HF.out]
      clear HF
      generalize (decide (11 ≤ us) && decide (us ≤ ((c : Nat) : Int) - 1)) = q at *
      go_enter Tryz.func52, Tryz.ntmps52
      go_wp2_with fail
      rw [← hwb]
      refine (HN.out _).mono ?_
      rintro e w1 ⟨rfl, hg⟩
      have HG1 := hid (HG.out.trans hg)
      have r1 := (HBx.out.grew hg).cell 1
      have r2 := (HBx.out.grew hg).lt
      simp only [List.getElem?_toArray, List.getElem?_cons_zero, List.getElem?_cons_succ] at r1
      clear hg hwb
      go_wp2_with fail
      refine (HW.out _).mono ?_
      rintro e w2 ⟨rfl, rfl⟩
      go_wp2_with fail
      go_ret
      exact ⟨by cases q <;> simp [h0], HG1.out⟩
end Go.Proofs.YtjladeiecokpfaaGreatDoor

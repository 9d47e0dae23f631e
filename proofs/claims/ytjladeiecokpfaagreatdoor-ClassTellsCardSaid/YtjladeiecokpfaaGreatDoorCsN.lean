/- Stage 10: areListed. -/
import Derived.Test.YtjladeiecokpfaaGreatDoorCsM
namespace Go.Proofs.YtjladeiecokpfaaGreatDoor
open Go.RowKit

def intV (l : List Int) : List Value := l.map (Value.int .i64)
theorem intV_len (l : List Int) : (intV l).length = l.length := by simp [intV]
theorem intV_one (l : List Int) : ∀ u ∈ intV l, u.oneCell' = true := by
  intro u hu
  obtain ⟨_, _, rfl⟩ := List.mem_map.1 hu
  rfl
theorem IntsAt.cells {w : World} {A : Option Addr} {l : List Int} (h : IntsAt w w.heap.size A l) : (A = none → l.length = 0) ∧ ∀ ad, A = some ad → ∀ j u, (intV l)[j]? = some u → w.cell? (ad.add j) = some u := by
  refine ⟨fun hA => ?_, fun ad hA j u hu => ?_⟩
  · rcases Nat.eq_zero_or_pos l.length with h0 | h0
    · exact h0
    · obtain ⟨ad, e, _⟩ := h.2 h0
      rw [hA] at e; cases e
  · subst hA
    have hj : j < l.length := by
      have := (List.getElem?_eq_some_iff.1 hu).1
      rwa [intV_len] at this
    obtain ⟨h1, _⟩ := int_get h (Grew.refl w) (List.getElem?_eq_getElem hj)
    rw [h1]
    unfold intV at hu
    rw [List.getElem?_map, List.getElem?_eq_getElem hj] at hu
    exact hu
theorem row_ints {w : World} {B : Nat} {e : TypeId} {A : Option Addr} {n c : Nat} {l : List Int} (h : Row w B e 1 A n c (intV l)) (_ : n = l.length) (h64 : ∀ x ∈ l, Vi.I64 x) : IntsAt w w.heap.size A l := by
  refine ⟨h64, fun hl => ?_⟩
  rcases Row.cases h with ⟨h1, _, _, ⟨rfl, h2, _⟩ | ⟨g, rfl, hb, hlt, hc, _⟩⟩
  · omega
  · refine ⟨_, rfl, hlt, fun j hj => ?_⟩
    rw [show (⟨g, 0, none⟩ : Addr).add j = ⟨g, j, none⟩ by unfold Addr.add; split <;> simp_all]
    exact hc j _ (by simp [intV, List.getD_eq_getElem?_getD, hj])
/-- The numbers of the methods of all classes. -/
def nums (l : List Cs.Cls) : List Int := l.flatMap (·.ms)
theorem nums_bound {l : List Cs.Cls} (h : ∀ x ∈ l, x.ms.length ≤ 100) (i : Nat) : (nums (l.take i)).length ≤ 100 * i := by
  unfold nums
  induction i generalizing l with
  | zero => simp
  | succ i ih =>
    cases l with
    | nil => simp
    | cons x r =>
      rw [List.take_succ_cons, List.flatMap_cons, List.length_append]
      have h1 := ih (l := r) (fun y hy => h y (List.mem_cons_of_mem _ hy))
      have h2 := h x List.mem_cons_self
      omega
/-- Each method is listed, and once. -/
def Listed (l : List Cs.Cls) (nm : Nat) : Prop := nm ≤ 256 ∧ (nums l).length = nm ∧ (∀ i ∈ nums l, isIdx i nm = true) ∧ (nums l).Nodup
set_option maxHeartbeats 1000000 in
theorem otherNum_c (i : Int) (gm : Nat) (A : Option Addr) (n c : Nat) (hn : n ≤ 1000000) (w : World) (hb : Blk w gm 30 #[.slice A n c]) :
    Calls Tryz.prog 55 (#[.int .i64 i] ++ #[.pointer (some ⟨gm, 0, none⟩)]) w fun e w' => e = .returned (.bool (!(isIdx i n))) ∧ Grew w w' := by
  have HN := hid (isIdxM_c i A n c hn)
  have q0 := hb.cell 0
  have ql := hb.lt
  simp only [List.getElem?_toArray, List.getElem?_cons_zero] at q0
  generalize isIdx i n = q at *
  clear hb hn
  show Calls Tryz.prog 55 #[.int .i64 i, .pointer (some ⟨gm, 0, none⟩)] w _
  go_enter Tryz.func55, Tryz.ntmps55
  go_wp2_with fail
  refine (HN.out _).mono ?_
  rintro e w1 ⟨rfl, rfl⟩
  go_wp2_with fail
  go_ret
  exact ⟨rfl, Grew.refl _⟩
set_option maxRecDepth 100000 in
set_option maxHeartbeats 8000000 in
theorem areListed_c (A : Option Addr) (cap : Nat) (l : List CV) (A2 : Option Addr) (nm c2 : Nat) (hnm : nm ≤ 1000000) (b : Bool) (hb : b = true ↔ Listed (cls l) nm) (w : World) (h : ClsAt w A l) :
    Calls Tryz.prog 31 #[.slice A l.length cap, .slice A2 nm c2] w fun e w' => e = .returned (.bool b) ∧ Grew w w' := by
  obtain ⟨n, en⟩ : ∃ n, n = l.length := ⟨_, rfl⟩
  have HA := hid h
  have HB := hid hb
  have hn : n ≤ 100 := by rw [en]; exact h.len
  rw [← en]
  have EN := hid en
  have HBm := hid (Blk.new w 30 #[.slice A2 nm c2])
  have HG0 := hid ((Grew.refl w).alloc (.cells #[.slice A2 nm c2] 30))
  have HNb := hid (nums_bound (l := cls l) h.fit.ms)
  clear h hb en
  obtain ⟨w0, hw0⟩ : ∃ w0, w0 = w.alloc (.cells #[.slice A2 nm c2] 30) := ⟨_, rfl⟩
  rw [← hw0] at HBm HG0
  go_enter Tryz.func31, Tryz.ntmps31
  go_wp2_with fail
  rw [← hw0]
  clear hw0
  go_loopw [5, 7, 11] (fun s5 _ s11 wr => ∃ (i : Nat) (A' : Option Addr) (m k' : Nat), s11 = .int .i64 ((i : Nat) : Int) ∧ i ≤ n ∧ s5 = .slice A' m k' ∧ Hid (Row wr w0.heap.size 3 1 A' m k' (intV (nums ((cls l).take i)))) ∧ Hid (m = (nums ((cls l).take i)).length) ∧ Grew w0 wr) (fun _ _ s11 _ => n - (intOf s11).toNat)
  case atStart => exact ⟨0, none, 0, 0, rfl, Nat.zero_le _, rfl, hid (Row.nil _ _ _ _), hid rfl, Grew.refl _⟩
  case round =>
    obtain ⟨i, A', m, k', rfl, hi, rfl, HR, HM, hg⟩ := hrel
    have HG := hid hg
    clear hg
    have hm : m ≤ 10000 := by
      have := HNb.out i
      rw [← HM.out] at this
      omega
    by_cases hlt : i < n
    · have f1 : (i : Int) < n := by omega
      obtain ⟨ad, v, rfl, hv⟩ := cv_some HA.out.arg (i := i) (by rw [← EN.out]; exact hlt)
      obtain ⟨p0, p1, p2, p3, hb1, hok⟩ := cv_get HA.out.arg (HG0.out.trans HG.out) hv
      have hx := cls_at hv
      have HMs := hid hok.ms
      have HNx := hid (show nums ((cls l).take (i + 1)) = nums ((cls l).take i) ++ v.c.ms by
        rw [List.take_add_one, hx]
        simp [nums])
      have hml : v.c.ms.length ≤ 100 := HA.out.fit.ms _ (HA.out.mem (List.mem_of_getElem? hv))
      clear hx hv hok
      go_upto_region 5 with fail
      have B1 := Blk.new wr 60 (cvCells v)
      have G1 := (Grew.refl wr).alloc (.cells (cvCells v) 60)
      have HB1 := hid B1
      have HG1 := hid (HG.out.trans G1)
      have HR1 := hid (HR.out.grew G1)
      have HMs1 := hid (HMs.out.grew G1)
      unfold cvCells at HB1 HG1 HR1 HMs1
      generalize wr.alloc (Obj.cells #[.string v.c.name, .int .i64 v.c.sup, .slice v.A1 v.c.vars.length v.c1, .slice v.A2 v.c.ms.length v.c2] 60) = w5 at *
      generalize wr.heap.size = gb at *
      clear p0 p1 p2 p3 hb1 B1 G1 HR HMs
      have x3 := HB1.out.cell 3
      have xl := HB1.out.lt
      simp only [List.getElem?_toArray, List.getElem?_cons_zero, List.getElem?_cons_succ] at x3
      go_wp2_with (at_builtin; refine wpList_catR (.int .i64 0) 1 8 w5 rfl _ _ 58 3 rfl Tryz.underlying58 int_info10 rfl (by decide) w0.heap.size HG1.out.below.size A' m k' _ rfl HR1.out v.A2 v.c.ms.length v.c2 (intV v.c.ms) rfl (by rw [intV_len, Nat.mul_one]) (intV_one _) HMs1.out.cells.1 HMs1.out.cells.2 (by omega) (by omega) ?_; rintro A8 k8 w8 hR8 hK8 hT8; have HR8 := hid hR8; have HG8 := hid (hK8.grew HG1.out (Row.at_base HR1.out)); clear hR8 hK8 hT8)
      go_round
      case rel => exact ⟨i + 1, A8, m + v.c.ms.length, k8, by go_num, by omega, rfl, hid (by rw [HNx.out, show intV (nums ((cls l).take i) ++ v.c.ms) = intV (nums ((cls l).take i)) ++ intV v.c.ms by simp [intV]]; exact HR8.out), hid (by rw [HNx.out, List.length_append, ← HM.out]), HG8.out⟩
      case measure => simp [intOf]; omega
    · have hin : i = n := by omega
      subst hin
      have hall : (cls l).take i = cls l := List.take_of_length_le (by rw [cls_len, ← EN.out]; exact Nat.le_refl _)
      have hrow := HR.out
      have hM := HM.out
      rw [hall] at hrow hM
      have h64 : ∀ x ∈ nums (cls l), Vi.I64 x := fun x hx => by
        obtain ⟨y, hy, hxy⟩ := List.mem_flatMap.1 hx
        obtain ⟨v, hv, rfl⟩ := List.mem_map.1 hy
        exact (HA.out.arg.ok v hv).ms.1 x hxy
      have hat := row_ints hrow hM h64
      have hbx := HBm.out.grew HG.out
      have x0 := hbx.cell 0
      have xl := hbx.lt
      simp only [List.getElem?_toArray, List.getElem?_cons_zero] at x0
      have HAny := hid (fun (W : World) (hW : Grew wr W) => anyInt_c 55 #[.pointer (some ⟨w.heap.size, 0, none⟩)] (enters_of Tryz.func55 (by kernel_rfl) rfl) (fun x => !(isIdx x nm)) A' k' (nums (cls l)) W (hat.grew hW) (by omega) (fun x _ V hV => otherNum_c x w.heap.size A2 nm c2 hnm V ((hbx.grew hW).grew hV)))
      obtain ⟨d, hd⟩ : ∃ d : Bool, d = true ↔ (nums (cls l)).Nodup := ⟨tru _, tru_iff _⟩
      have HDis := hid (fun (W : World) (hW : Grew wr W) => disInt_c A' k' (nums (cls l)) d hd W (hat.grew hW) (by omega))
      rw [← hM] at HAny HDis
      have HV := hid (show ((nums (cls l)).any fun x => !(isIdx x nm)) = false ↔ ∀ x ∈ nums (cls l), isIdx x nm = true by
        rw [List.any_eq_false]
        exact ⟨fun hh x hx => by have := hh x hx; simpa using this, fun hh x hx => by rw [hh x hx]; decide⟩)
      have HD := hid hd
      have HM2 := hid hM
      generalize ((nums (cls l)).any fun x => !(isIdx x nm)) = q at *
      clear hall hrow hM h64 hat hbx hd HR HM hn hi hlt
      by_cases c1 : nm ≤ 256
      · have f1 : ((nm : Nat) : Int) ≤ 256 := by omega
        by_cases c2' : m = nm
        · subst c2'
          have HQ := hid c1
          clear c1
          cases q
          · have HE := hid (show b = d by
              rw [Bool.eq_iff_iff, HB.out, HD.out]
              exact ⟨fun hh => hh.2.2.2, fun hh => ⟨HQ.out, HM2.out.symm, HV.out.1 rfl, hh⟩⟩)
            clear HV HD HB
            go_wp2_with fail
            refine (HAny.out _ (Grew.refl _)).mono ?_
            rintro e w1 ⟨rfl, hg1⟩
            have HG1 := hid hg1
            clear hg1 x0 xl
            go_wp2_with fail
            refine (HDis.out _ HG1.out).mono ?_
            rintro e w2 ⟨rfl, hg2⟩
            have HG2 := hid (HG1.out.trans hg2)
            clear hg2
            go_wp2_with fail
            go_ret
            exact ⟨by rw [HE.out]; rfl, HG0.out.trans (HG.out.trans HG2.out)⟩
          · have HE := hid (show b = false by
              rw [← Bool.not_eq_true, HB.out]
              rintro ⟨_, _, h3, _⟩
              have := HV.out.2 h3
              cases this)
            clear HV HD HB
            go_wp2_with fail
            refine (HAny.out _ (Grew.refl _)).mono ?_
            rintro e w1 ⟨rfl, hg1⟩
            have HG1 := hid hg1
            clear hg1 x0 xl
            go_wp2_with fail
            go_ret
            exact ⟨by rw [HE.out]; rfl, HG0.out.trans (HG.out.trans HG1.out)⟩
        · have f2 : ¬ ((m : Nat) : Int) = ((nm : Nat) : Int) := by omega
          have HE := hid (show b = false by
            rw [← Bool.not_eq_true, HB.out]
            rintro ⟨_, h2, _⟩
            exact c2' (HM2.out.trans h2))
          clear HV HD HB c1
          go_wp2_with fail
          go_ret
          exact ⟨by rw [HE.out]; rfl, HG0.out.trans HG.out⟩
      · have f1 : ¬ ((nm : Nat) : Int) ≤ 256 := by omega
        have HE := hid (show b = false by
          rw [← Bool.not_eq_true, HB.out]
          rintro ⟨h1, _⟩
          exact c1 h1)
        clear HV HD HB c1
        go_wp2_with fail
        go_ret
        exact ⟨by rw [HE.out]; rfl, HG0.out.trans HG.out⟩
end Go.Proofs.YtjladeiecokpfaaGreatDoor

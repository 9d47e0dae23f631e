/- Stage 10: the built-in classes in memory; EqualFunc. -/
import Derived.Test.YtjladeiecokpfaaGreatDoorCsK
import Derived.Test.YtjladeiecokpfaaGreatDoorZMtR
namespace Go.Proofs.YtjladeiecokpfaaGreatDoor
open Go.RowKit

theorem firstV_cls : cls firstV = firstL := by
  unfold cls firstV
  rw [List.map_map]
  exact List.map_id _
def cvF (v : CV) : List Value := [.string v.c.name, .int .i64 v.c.sup, .slice v.A1 v.c.vars.length v.c1, .slice v.A2 v.c.ms.length v.c2]
theorem cvF_cells (v : CV) : (cvF v).toArray = cvCells v := rfl
theorem cvF_len (v : CV) : (cvF v).length = 4 := rfl
theorem cvF_one (v : CV) : ∀ u ∈ cvF v, u.oneCell' = true := by
  intro u hu
  simp only [cvF, List.mem_cons, List.not_mem_nil, or_false] at hu
  rcases hu with rfl | rfl | rfl | rfl <;> rfl
theorem firstC_cells : (firstC 11).set 1 (.int .i64 (-1)) = firstV.flatMap cvF := by kernel_rfl
/-- Classes in a row of cells. -/
theorem cls_row {w : World} {B : Nat} {e : TypeId} {A : Option Addr} {n c : Nat} {l : List CV} (h : Row w B e 4 A n c (l.flatMap cvF)) (hn : n = l.length) (hok : ∀ v ∈ l, CvOk w v) : ClsArg w A l := by
  refine ⟨hok, fun hl => ?_⟩
  rcases Row.cases h with ⟨h1, _, _, ⟨rfl, h2, _⟩ | ⟨g, rfl, hb, hlt, hc, _⟩⟩
  · omega
  · refine ⟨_, rfl, hlt, fun i v hi j u hu => ?_⟩
    rw [show (⟨g, 0, none⟩ : Addr).add (i * 4 + j) = ⟨g, i * 4 + j, none⟩ by unfold Addr.add; split <;> simp_all]
    refine hc (i * 4 + j) u (flat_at cvF 4 cvF_len l i v hi j u ?_)
    rw [← cvF_cells, List.getElem?_toArray] at hu
    exact hu
theorem strs_nil (w : World) (A : Option Addr) : StrsAt w w.heap.size A [] := fun h => absurd h (by simp)
theorem ints_nil (w : World) (A : Option Addr) : IntsAt w w.heap.size A [] := ⟨(fun x hx => by cases hx), fun h => absurd h (by simp)⟩
theorem nil_cvok (w : World) (x : Cs.Cls) (hv : x.vars = []) (hm : x.ms = []) (hs : Vi.I64 x.sup) : CvOk w ⟨x, none, 0, none, 0⟩ := by
  obtain ⟨n, s, v, m⟩ := x
  simp only at hv hm
  subst hv hm
  exact ⟨strs_nil w none, ints_nil w none, hs, Nat.le_refl _, Nat.le_refl _⟩
theorem firstL_mem {x : Cs.Cls} (h : x ∈ firstL) : x.vars = [] ∧ x.ms = [] ∧ Vi.I64 x.sup ∧ x.name.size ≤ 20 := by
  unfold firstL at h
  obtain ⟨k, hk, rfl⟩ := List.mem_map.1 h
  have hk := List.mem_range.1 hk
  refine ⟨rfl, rfl, ?_, ?_⟩
  · show Vi.I64 (if k = 0 then -1 else 0)
    split <;> exact ⟨by decide, by decide⟩
  · have : ∀ k, k < 11 → (firstB.getD k ⟨#[]⟩).size ≤ 20 := by decide
    exact this k hk
theorem firstV_ok (w : World) : ∀ v ∈ firstV, CvOk w v := by
  intro v hv
  obtain ⟨x, hx, rfl⟩ := List.mem_map.1 hv
  obtain ⟨h1, h2, h3, _⟩ := firstL_mem hx
  exact nil_cvok w x h1 h2 h3
theorem firstL_fit : ClsFit firstL where
  len := by decide
  name := fun x hx => by have := (firstL_mem hx).2.2.2; omega
  vars := fun x hx => by rw [(firstL_mem hx).1]; decide
  var := fun x hx s hs => by rw [(firstL_mem hx).1] at hs; cases hs
  ms := fun x hx => by rw [(firstL_mem hx).2.1]; decide
theorem first_row {w : World} {B g : Nat} (h : Blk w g 60 ((firstC 11).set 1 (.int .i64 (-1))).toArray) (hB : B ≤ g) : Row w B 60 4 (some ⟨g, 0, none⟩) 11 11 (firstV.flatMap cvF) := by
  have := Row.of_blk (B := B) (s := 4) (n := 11) h hB (by kernel_rfl) (by decide)
  rw [List.toList_toArray, firstC_cells] at this
  exact this
theorem first_at {w : World} {g : Nat} (h : Blk w g 60 ((firstC 11).set 1 (.int .i64 (-1))).toArray) : ClsAt w (some ⟨g, 0, none⟩) firstV :=
  ⟨cls_row (first_row h (Nat.zero_le _)) (by decide) (firstV_ok w), by rw [firstV_cls]; exact firstL_fit⟩
/-- Are two classes alike, but for their methods? -/
def likeB (u v : CV) : Bool := decide (u.c.name = v.c.name ∧ u.c.sup = v.c.sup ∧ u.c.vars = [])
def allLike : List CV → List CV → Bool
  | [], [] => true
  | u :: l, v :: r => likeB u v && allLike l r
  | _, _ => false
theorem allLike_split : ∀ {l r : List CV} {i : Nat}, l.length = r.length → allLike l r = (allLike (l.take i) (r.take i) && allLike (l.drop i) (r.drop i))
  | l, r, 0, _ => by simp [allLike]
  | [], [], i + 1, _ => rfl
  | u :: l, v :: r, i + 1, h => by
    simp only [List.take_succ_cons, List.drop_succ_cons, allLike]
    rw [allLike_split (i := i) (by simpa using h), Bool.and_assoc]
theorem allLike_next {l r : List CV} {i : Nat} {u v : CV} (hu : l[i]? = some u) (hv : r[i]? = some v) : allLike (l.drop i) (r.drop i) = (likeB u v && allLike (l.drop (i + 1)) (r.drop (i + 1))) := by
  obtain ⟨h1, rfl⟩ := List.getElem?_eq_some_iff.1 hu
  obtain ⟨h2, rfl⟩ := List.getElem?_eq_some_iff.1 hv
  rw [List.drop_eq_getElem_cons h1, List.drop_eq_getElem_cons h2, allLike]
set_option maxRecDepth 100000 in
set_option maxHeartbeats 4000000 in
theorem equalFunc_c (A : Option Addr) (c : Nat) (l : List CV) (B : Option Addr) (d : Nat) (r : List CV) (w : World) (h : ClsArg w A l) (h2 : ClsArg w B r) (hl : l.length = r.length) (hb : l.length ≤ 1000000) :
    Calls Tryz.prog 50 #[.slice A l.length c, .slice B r.length d, .func (.func 51) #[] #[]] w fun e w' => e = .returned (.bool (allLike l r)) ∧ Grew w w' := by
  obtain ⟨n, en⟩ : ∃ n, n = l.length := ⟨_, rfl⟩
  have HA := hid h
  have HB := hid h2
  rw [← hl, ← en]
  rw [← en] at hb
  have EN := hid en
  have EM := hid (en.trans hl)
  have HI := hid isLike_c
  clear h h2 en hl
  obtain ⟨R, hR⟩ : ∃ R, R = allLike l r := ⟨_, rfl⟩
  rw [← hR]
  have HR := hid hR
  clear hR
  go_enter Tryz.func50, Tryz.ntmps50
  go_wp2_with fail
  go_loopw [7, 8, 9, 17] (fun _ _ _ s17 wr => ∃ i : Nat, s17 = .int .i64 ((i : Nat) : Int) ∧ i ≤ n ∧ Grew w wr ∧ Hid (R = allLike (l.drop i) (r.drop i))) (fun _ _ _ s17 _ => n - (intOf s17).toNat)
  case atStart => exact ⟨0, rfl, Nat.zero_le _, Grew.refl _, HR⟩
  case round =>
    obtain ⟨i, rfl, hi, hg, HE⟩ := hrel
    have HG := hid hg
    clear hg
    by_cases hlt : i < n
    · have f1 : (i : Int) < n := by omega
      obtain ⟨a1, u, rfl, hu, p0, p1, p2, p3, hb1, -⟩ := cv_arg HA.out HG.out (i := i) (by rw [← EN.out]; exact hlt)
      obtain ⟨a2, v, rfl, hv, -⟩ := cv_arg HB.out HG.out (i := i) (by rw [← EM.out]; exact hlt)
      have HN := hid (allLike_next hu hv)
      have HV := hid hv
      have HL := hid (fun w' => HI.out u v w')
      have HLb := hid (show likeB u v = decide (u.c.name = v.c.name ∧ u.c.sup = v.c.sup ∧ u.c.vars = []) from rfl)
      rw [← HLb.out] at HL
      clear hu hv HLb
      go_upto_region 6 with fail
      have B1 := Blk.new wr 60 (cvCells u)
      have G1 := (Grew.refl wr).alloc (.cells (cvCells u) 60)
      obtain ⟨-, q1, q2, q3, hb2, -⟩ := cv_get HB.out (HG.out.trans G1) HV.out
      obtain ⟨q0, -⟩ := cv_get HB.out (HG.out.trans G1) HV.out
      have HB1 := hid B1
      have HG1 := hid G1
      unfold cvCells at q0 q1 q2 q3 hb2 HB1 HG1
      generalize wr.alloc (Obj.cells #[.string u.c.name, .int .i64 u.c.sup, .slice u.A1 u.c.vars.length u.c1, .slice u.A2 u.c.ms.length u.c2] 60) = w1 at *
      generalize wr.heap.size = g1 at *
      clear p0 p1 p2 p3 hb1 B1 G1
      go_upto_region 7 with fail
      have B2 := Blk.new w1 60 (cvCells v)
      have G2 := (Grew.refl w1).alloc (.cells (cvCells v) 60)
      have HB2 := hid B2
      have HG2 := hid G2
      unfold cvCells at HB2 HG2 HL
      generalize w1.alloc (Obj.cells #[.string v.c.name, .int .i64 v.c.sup, .slice v.A1 v.c.vars.length v.c1, .slice v.A2 v.c.ms.length v.c2] 60) = w2 at *
      generalize w1.heap.size = g2 at *
      clear q0 q1 q2 q3 hb2 B2 G2
      have x0 := (HB1.out.grew HG2.out).cell 0
      have x1 := (HB1.out.grew HG2.out).cell 1
      have x2 := (HB1.out.grew HG2.out).cell 2
      have x3 := (HB1.out.grew HG2.out).cell 3
      have y0 := HB2.out.cell 0
      have y1 := HB2.out.cell 1
      have y2 := HB2.out.cell 2
      have y3 := HB2.out.cell 3
      simp only [List.getElem?_toArray, List.getElem?_cons_zero, List.getElem?_cons_succ] at x0 x1 x2 x3 y0 y1 y2 y3
      generalize likeB u v = bl at *
      cases bl
      · have HF := hid (show R = false by rw [HE.out, HN.out]; rfl)
        go_wp2_with fail
        refine (HL.out _).mono ?_
        rintro e w3 ⟨rfl, hg3⟩
        have HG3 := hid hg3
        clear hg3
        go_wp2_with fail
        go_ret
        exact ⟨by rw [HF.out]; rfl, HG.out.trans (HG1.out.trans (HG2.out.trans HG3.out))⟩
      · have HF := hid (show R = allLike (l.drop (i + 1)) (r.drop (i + 1)) by rw [HE.out, HN.out]; rfl)
        go_wp2_with fail
        refine (HL.out _).mono ?_
        rintro e w3 ⟨rfl, hg3⟩
        have HG3 := hid hg3
        clear hg3
        go_wp2_with fail
        go_round
        case rel => exact ⟨i + 1, by go_num, by omega, HG.out.trans (HG1.out.trans (HG2.out.trans HG3.out)), HF⟩
        case measure => simp [intOf]; omega
    · have hin : i = n := by omega
      subst hin
      have HT := hid (show R = true by
        rw [HE.out, List.drop_of_length_le (by rw [← EN.out]; exact Nat.le_refl _), List.drop_of_length_le (by rw [← EM.out]; exact Nat.le_refl _)]
        rfl)
      go_wp2_with fail
      go_ret
      exact ⟨by rw [HT.out]; rfl, HG.out⟩
end Go.Proofs.YtjladeiecokpfaaGreatDoor

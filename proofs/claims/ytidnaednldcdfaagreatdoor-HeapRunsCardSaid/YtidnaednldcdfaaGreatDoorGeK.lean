/- Stage 12: the reference's Put, as plain data; objs. -/
import Derived.Test.YtidnaednldcdfaaGreatDoorGeR
namespace Go.Proofs.YtidnaednldcdfaaGreatDoor
open Go.RowKit

theorem modify_place {L : List Hp.It} (hs : Hp.Sorted L) {k : Nat} {x : Hp.It} (hx : L[k]? = some x) (g : Ob.Obj → Ob.Obj) : (L.map (fun y : Hp.It => y.o)).modify k g = (L.map (fun y : Hp.It => if y.i = x.i then { y with o := g y.o } else y)).map (fun y : Hp.It => y.o) := by
  apply List.ext_getElem?
  intro a
  rw [List.getElem?_modify, List.getElem?_map, List.getElem?_map, List.getElem?_map]
  by_cases ha : k = a
  · subst ha
    rw [hx]
    simp
  · cases hy : L[a]? with
    | none => simp
    | some y =>
      have hne : y.i ≠ x.i := fun e => by
        have h1 := Hp.sorted_one hs (List.mem_of_getElem? hy) (List.mem_of_getElem? hx) e
        subst h1
        have hp := List.pairwise_iff_getElem.1 hs
        obtain ⟨ha2, e2⟩ := List.getElem?_eq_some_iff.1 hy
        obtain ⟨hk2, e3⟩ := List.getElem?_eq_some_iff.1 hx
        rcases Nat.lt_or_ge k a with h | h
        · have := hp k a hk2 ha2 h
          rw [e2, e3] at this
          omega
        · have := hp a k ha2 hk2 (by omega)
          rw [e2, e3] at this
          omega
      simp [ha, hne]
theorem put_place {up : List Nat} {L : List Hp.It} (hs : Hp.Sorted L) (i k under : Int) (v : Ob.Val) :
    Ob.putCode up (L.map (fun y : Hp.It => y.o)) (placeAt L i) k under v = Hp.putCode up L i k under v ∧ Ob.put up (L.map (fun y : Hp.It => y.o)) (placeAt L i) k under v = (Hp.put up L i k under v).map (fun y : Hp.It => y.o) := by
  rcases place_spec L i with ⟨h1, h2⟩ | ⟨p, x, h1, h2, h3, h4⟩
  · have hc : Ob.putCode up (L.map (fun y : Hp.It => y.o)) (placeAt L i) k under v = Hp.putCode up L i k under v := by
      rw [h1]
      unfold Ob.putCode Hp.putCode
      rw [h2]
      split
      · rfl
      · cases (L.map (fun y : Hp.It => y.o))[(-1 : Int).toNat]? <;> simp
    refine ⟨hc, ?_⟩
    have hn : Hp.putCode up L i k under v ≠ 0 := by
      unfold Hp.putCode
      rw [h2]
      split <;> simp
    rw [Hp.put_bad hn, Ob.put_bad (by rw [hc]; exact hn)]
  · have hc : Ob.putCode up (L.map (fun y : Hp.It => y.o)) (placeAt L i) k under v = Hp.putCode up L i k under v := by
      rw [h1]
      unfold Ob.putCode Hp.putCode
      rw [h4, Int.toNat_natCast, List.getElem?_map, h2]
      have hp : ¬ ((p : Nat) : Int) < 0 := by omega
      simp only [Option.map_some, hp, if_false]
      cases x.o.f[k.toNat]? <;> rfl
    refine ⟨hc, ?_⟩
    by_cases h0 : Hp.putCode up L i k under v = 0
    · rw [Hp.put_good h0]
      unfold Ob.put
      rw [hc, if_pos h0, h1, Int.toNat_natCast, modify_place hs h2]
      congr 1
      refine List.map_congr_left (fun y _ => ?_)
      unfold Hp.putIt
      rw [h3]
    · rw [Hp.put_bad h0, Ob.put_bad (by rw [hc]; exact h0)]
/-- The items with other objects. -/
def zipI (a : List IV) (l : List OV) : List IV := List.zipWith (fun x y => ⟨x.i, x.h, y.o, y.A, y.c⟩) a l
theorem zipI_len {a : List IV} {l : List OV} (h : l.length = a.length) : (zipI a l).length = a.length := by simp [zipI, h]
theorem zipI_at {a : List IV} {l : List OV} {k : Nat} {x : IV} {y : OV} (hx : a[k]? = some x) (hy : l[k]? = some y) : (zipI a l)[k]? = some ⟨x.i, x.h, y.o, y.A, y.c⟩ := by
  unfold zipI
  rw [List.getElem?_zipWith, hx, hy]
theorem zipI_iv {a : List IV} {l : List OV} {M : List Hp.It} (h : l.length = a.length) (hM : M.length = a.length) (hi : ∀ (k : Nat) (x : IV) (z : Hp.It), a[k]? = some x → M[k]? = some z → z.i = x.i ∧ z.h = x.h) (ho : objs l = M.map (fun y : Hp.It => y.o)) : ivI (zipI a l) = M := by
  apply List.ext_getElem?
  intro k
  by_cases hk : k < a.length
  · obtain ⟨x, hx⟩ : ∃ x, a[k]? = some x := ⟨_, List.getElem?_eq_getElem hk⟩
    obtain ⟨y, hy⟩ : ∃ y, l[k]? = some y := ⟨_, List.getElem?_eq_getElem (by omega)⟩
    obtain ⟨z, hz⟩ : ∃ z, M[k]? = some z := ⟨_, List.getElem?_eq_getElem (by omega)⟩
    rw [ivI_at (zipI_at hx hy), hz]
    have h1 := objs_at hy
    rw [ho, List.getElem?_map, hz] at h1
    have h2 : z.o = y.o := Option.some.inj h1
    obtain ⟨h3, h4⟩ := hi k x z hx hz
    rw [← h2, ← h3, ← h4]
  · rw [List.getElem?_eq_none (by rw [ivI_len, zipI_len h]; omega), List.getElem?_eq_none (by omega)]
theorem put_same {up : List Nat} {L : List Hp.It} {i k under : Int} {v : Ob.Val} {a : Nat} {z x : Hp.It} (hz : (Hp.put up L i k under v)[a]? = some z) (hx : L[a]? = some x) : z.i = x.i ∧ z.h = x.h := by
  by_cases h0 : Hp.putCode up L i k under v = 0
  · rw [Hp.put_good h0, List.getElem?_map, hx] at hz
    have e : Hp.putIt up i k under v x = z := Option.some.inj hz
    rw [← e]
    exact ⟨Hp.putIt_i _ _ _ _ _ _, Hp.putIt_h _ _ _ _ _ _⟩
  · rw [Hp.put_bad h0, hx] at hz
    cases hz
    exact ⟨rfl, rfl⟩
theorem rob_info : (Tryz.prog.info? 58).map (fun i => (i.zero, i.size, i.bytes)) = some (some (.agg #[.int .i64 0, .int .i64 0, .slice none 0 0, .string ⟨#[]⟩]), 4, 56) := by kernel_rfl
def ovs (l : List IV) : List OV := l.map (fun x => ⟨x.o, x.A, x.c⟩)
theorem ovs_at {l : List IV} {k : Nat} {x : IV} (h : l[k]? = some x) : (ovs l)[k]? = some ⟨x.o, x.A, x.c⟩ := by unfold ovs; rw [List.getElem?_map, h]; rfl
theorem ovs_len (l : List IV) : (ovs l).length = l.length := by simp [ovs]
theorem ovs_objs (l : List IV) : objs (ovs l) = (ivI l).map (fun y : Hp.It => y.o) := by
  unfold objs ovs ivI
  rw [List.map_map, List.map_map]
  rfl
set_option maxRecDepth 100000 in
set_option maxHeartbeats 4000000 in
theorem robjs_c (r : RV) (w : World) (h : ItemsAt w r.I r.its) (hl : r.its.length ≤ 1000) : Calls Tryz.prog 57 #[.agg (rvC r)] w fun e w' => ∃ A' c', e = .returned (.slice A' r.its.length c') ∧ ObjsAt w' A' (ovs r.its) ∧ Grew w w' := by
  unfold rvC
  obtain ⟨U, cu, up, room, Q, cq, q, I, ci, its, C, cc, cn⟩ := r
  simp only at h hl ⊢
  generalize up.length = un
  generalize q.length = qn
  generalize cn.length = kn
  obtain ⟨n, en⟩ : ∃ n, n = its.length := ⟨_, rfl⟩
  rw [← en] at hl ⊢
  have EN := hid en
  have HI := hid h
  clear h en
  have B1 := Blk.new w 53 #[.slice U un cu, .int .i64 room, .slice Q qn cq, .slice I n ci, .slice C kn cc]
  have G1 := (Grew.refl w).alloc (.cells #[.slice U un cu, .int .i64 room, .slice Q qn cq, .slice I n ci, .slice C kn cc] 53)
  go_enter Tryz.func57, Tryz.ntmps57
  go_upto_region 1 with fail
  generalize w.alloc (.cells #[.slice U un cu, .int .i64 room, .slice Q qn cq, .slice I n ci, .slice C kn cc] 53) = w1 at *
  obtain ⟨g, eg⟩ : ∃ g, g = w.heap.size := ⟨_, rfl⟩
  rw [← eg] at B1 ⊢
  have HB := hid B1
  have HG := hid G1
  have EG := hid eg
  clear B1 G1 eg
  go_wp2_with fail
  go_loopw [3, 4] (fun s3 s4 wr => ∃ (i : Nat) (A' : Option Addr) (k' : Nat), s4 = .int .i64 ((i : Nat) : Int) ∧ i ≤ n ∧ s3 = .slice A' i k' ∧ Hid (Row wr w1.heap.size 58 4 A' i k' (((ovs its).take i).flatMap ovF)) ∧ Hid (Grew w1 wr)) (fun _ s4 _ => n - (intOf s4).toNat)
  case atStart => exact ⟨0, none, 0, rfl, Nat.zero_le _, rfl, hid (Row.nil _ _ _ _), hid (Grew.refl _)⟩
  case round =>
    obtain ⟨i, A', k', rfl, hi, rfl, HR, HW⟩ := hrel
    have HBr := hid (HB.out.grew HW.out)
    have p3 := HBr.out.cell 3
    have pl := HBr.out.lt
    simp only [List.getElem?_toArray, List.getElem?_cons_zero, List.getElem?_cons_succ] at p3
    by_cases hlt : i < n
    · have f1 : (i : Int) < (n : Int) := by omega
      obtain ⟨ad, x, rfl, hx, hcl, hb, hok, -, -⟩ := iv_at HI.out (HG.out.trans HW.out) (i := i) (by rw [← EN.out]; exact hlt)
      have HNx := hid (show (ovs its).take (i + 1) = (ovs its).take i ++ [⟨x.o, x.A, x.c⟩] by rw [List.take_add_one, ovs_at hx]; rfl)
      have q2 := hcl 2 _ rfl
      have q3 := hcl 3 _ rfl
      have q4 := hcl 4 _ rfl
      have q5 := hcl 5 _ rfl
      rw [add_pos (by decide), block_add] at q2 q3 q4 q5
      clear hx hcl hok
      obtain ⟨xi, xh, ⟨cls, lev, f, bt⟩, xA, xc⟩ := x
      simp only at q2 q3 q4 q5 HNx
      have HLf : Hid (ovF ⟨⟨cls, lev, f, bt⟩, xA, xc⟩ = [.int .i64 cls, .int .i64 lev, .slice xA f.length xc, .string bt]) := hid rfl
      generalize f.length = fm at *
      go_wp2_with (at_builtin; refine wpList_pushS (.agg #[.int .i64 0, .int .i64 0, .slice none 0 0, .string ⟨#[]⟩]) 4 56 wr rfl _ _ 114 58 rfl Tryz.underlying114 rob_info rfl (by decide) w1.heap.size HW.out.below.size A' i k' _ rfl HR.out wr.heap.size rfl rfl [.int .i64 cls, .int .i64 lev, .slice xA fm xc, .string bt] rfl (by intro u hu; simp only [List.mem_cons, List.not_mem_nil, or_false] at hu; rcases hu with rfl | rfl | rfl | rfl <;> rfl) (by omega) (by omega) ?_; rintro A8 k8 w8 hR8 hK8 hT8; have HR8 := hid hR8; have HW8 := hid (hK8.grew HW.out (Row.at_base HR.out)); clear hR8 hK8 hT8)
      go_round
      case rel => exact ⟨i + 1, A8, k8, by go_num, by omega, rfl, hid (by rw [HNx.out, List.flatMap_append, List.flatMap_cons, List.flatMap_nil, List.append_nil, HLf.out]; exact HR8.out), HW8⟩
      case measure => simp [intOf]; omega
    · have hin : i = n := by omega
      subst hin
      have HE := hid (show (ovs its).take i = ovs its from List.take_of_length_le (by rw [ovs_len, ← EN.out]; exact Nat.le_refl _))
      go_wp2_with fail
      go_ret
      have hr := HR.out
      rw [HE.out] at hr
      refine ⟨A', k', rfl, ⟨fun v hv => ?_, fun hl => ?_⟩, HG.out.trans HW.out⟩
      · obtain ⟨x, hx, rfl⟩ := List.mem_map.1 hv
        exact (HI.out.ok x hx).1.grew (HG.out.trans HW.out)
      · rcases hr.cases with ⟨_, _, _, ⟨_, h2, _⟩ | ⟨g, h1, hb, hw, hc, _⟩⟩
        · rw [ovs_len, ← EN.out] at hl
          omega
        · exact ⟨⟨g, 0, none⟩, h1, hw, CellsAt.of_row ovF_len (by rw [h1] at hr; exact hr)⟩
end Go.Proofs.YtidnaednldcdfaaGreatDoor

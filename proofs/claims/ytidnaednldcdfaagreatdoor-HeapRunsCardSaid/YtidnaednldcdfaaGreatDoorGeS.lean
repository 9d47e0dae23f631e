/- Stage 12: a nil heap; all. -/
import Derived.Test.YtidnaednldcdfaaGreatDoorGeN
namespace Go.Proofs.YtidnaednldcdfaaGreatDoor
open Go.RowKit

set_option maxRecDepth 100000 in
theorem hAdd_nil (w : World) : Calls Tryz.prog 7 #[.pointer none, .int .i64 0, .int .i64 0, .slice none 0 0, .string ⟨#[]⟩] w fun e w' => e = .returned (.tuple #[.int .i64 0, .iface 91 (.int .i64 1)]) ∧ Grew w w' := by
  have B1 := Blk.new w 30 #[.int .i64 0, .int .i64 0, .slice none 0 0, .string ⟨#[]⟩]
  have G1 := (Grew.refl w).alloc (.cells #[.int .i64 0, .int .i64 0, .slice none 0 0, .string ⟨#[]⟩] 30)
  go_enter Tryz.func7, Tryz.ntmps7
  go_upto_region 2 with fail
  generalize w.alloc (.cells #[.int .i64 0, .int .i64 0, .slice none 0 0, .string ⟨#[]⟩] 30) = w1 at *
  have HG := hid G1
  clear G1 B1
  refine wp_region_grew_from (w0 := w1) (Grew.refl w1) (by kernel_rfl) (by kernel_rfl) ?_
  repeat (go_big_quiet_step (fail))
  refine wpQuiet_nil ?_
  rintro _ ⟨y, rfl⟩
  go_wp2_with fail
  go_ret2
  exact ⟨rfl, HG.out.trans y.grew⟩
set_option maxRecDepth 100000 in
theorem hPut_nil (w : World) : Calls Tryz.prog 9 #[.pointer none, .int .i64 0, .int .i64 0, .int .i64 0, .agg #[.int .u8 0, .int .i64 0, .int .i64 0]] w fun e w' => e = .returned (.iface 91 (.int .i64 1)) ∧ Grew w w' := by
  have G1 := (Grew.refl w).alloc (.cells #[.int .u8 0, .int .i64 0, .int .i64 0] 41)
  go_enter Tryz.func9, Tryz.ntmps9
  go_upto_region 1 with fail
  generalize w.alloc (.cells #[.int .u8 0, .int .i64 0, .int .i64 0] 41) = w1 at *
  have HG := hid G1
  clear G1
  refine wp_region_grew_from (w0 := w1) (Grew.refl w1) (by kernel_rfl) (by kernel_rfl) ?_
  repeat (go_big_quiet_step (fail))
  refine wpQuiet_nil ?_
  rintro _ ⟨y, rfl⟩
  go_wp2_with fail
  go_ret
  exact ⟨rfl, HG.out.trans y.grew⟩
set_option maxRecDepth 100000 in
theorem hCollect_nil (w : World) : Calls Tryz.prog 12 #[.pointer none, .slice none 0 0] w fun e w' => e = .returned (.int .i64 0) ∧ Grew w w' := by
  go_enter Tryz.func12, Tryz.ntmps12
  go_wp2_with fail
  go_ret
  exact ⟨rfl, Grew.refl _⟩
theorem flat_lens {l : List LV} {b : Nat} (h : ∀ x ∈ l, x.l.length ≤ b) : (flat l).length ≤ b * l.length := by
  unfold flat
  induction l with
  | nil => simp
  | cons x r ih =>
    have h1 := h x (List.mem_cons_self ..)
    have h2 := ih (fun y hy => h y (List.mem_cons_of_mem _ hy))
    rw [List.flatMap_cons, List.length_append, List.length_cons, Nat.mul_add]
    omega
set_option maxRecDepth 100000 in
set_option maxHeartbeats 4000000 in
theorem all_c (A : Option Addr) (c : Nat) (l : List LV) (w : World) (h : ListsAt w A l) (hl : l.length ≤ 100) (hx : ∀ x ∈ l, x.l.length ≤ 1000) : Calls Tryz.prog 24 #[.slice A l.length c] w fun e w' => ∃ A' c', e = .returned (.slice A' (flat l).length c') ∧ ValsAt w' A' (flat l) ∧ Grew w w' := by
  have HA := hid h
  have HX := hid hx
  obtain ⟨n, en⟩ : ∃ n, n = l.length := ⟨_, rfl⟩
  rw [← en] at hl ⊢
  have EN := hid en
  clear h en hx
  go_enter Tryz.func24, Tryz.ntmps24
  go_wp2_with fail
  go_loopw [3, 4] (fun s3 s4 wr => ∃ (i nn : Nat) (A' : Option Addr) (k' : Nat), s4 = .int .i64 ((i : Nat) : Int) ∧ i ≤ n ∧ s3 = .slice A' nn k' ∧ Hid (nn = (flat (l.take i)).length) ∧ Hid (Row wr w.heap.size 59 3 A' nn k' ((flat (l.take i)).flatMap valF)) ∧ Hid (Grew w wr)) (fun _ s4 _ => n - (intOf s4).toNat)
  case atStart => exact ⟨0, 0, none, 0, rfl, Nat.zero_le _, rfl, hid (by simp [flat]), hid (by simpa [flat] using Row.nil _ _ _ _), hid (Grew.refl _)⟩
  case round =>
    obtain ⟨i, nn, A', k', rfl, hi, rfl, HNn, HR, HG⟩ := hrel
    by_cases hlt : i < n
    · have f1 : (i : Int) < (n : Int) := by omega
      obtain ⟨ad, x, rfl, hx, q0, hb, hv⟩ := list_at HA.out HG.out (i := i) (by rw [← EN.out]; exact hlt)
      have HNx := hid (show flat (l.take (i + 1)) = flat (l.take i) ++ x.l by unfold flat; rw [List.take_add_one, hx, List.flatMap_append]; simp)
      have HV := hid (hv.grew HG.out)
      have hxl := HX.out x (List.mem_of_getElem? hx)
      have hnl := flat_lens (l := l.take i) (fun y hy => HX.out y (List.mem_of_mem_take hy))
      rw [List.length_take, ← HNn.out] at hnl
      have hnl2 : nn ≤ 100000 := by omega
      have HVn := hid (vals_none HV.out)
      have HVc := hid (vals_cells HV.out)
      obtain ⟨xA, xc, xl⟩ := x
      simp only at q0 HNx HV hxl HVn HVc
      obtain ⟨xm, exm⟩ : ∃ xm, xm = xl.length := ⟨_, rfl⟩
      rw [← exm] at q0 hxl HVn
      have HVl := hid (show (xl.flatMap valF).length = xm * 3 by rw [flatMap_length valF_len, exm])
      have EXm := hid exm
      clear hx hv exm hnl
      go_wp2_with (at_builtin; refine wpList_catR (.agg #[.int .u8 0, .int .i64 0, .int .i64 0]) 3 24 wr rfl _ _ 56 59 rfl Tryz.underlying56 rvals_info rfl (by decide) w.heap.size HG.out.below.size A' nn k' _ rfl HR.out xA xm xc (xl.flatMap valF) rfl HVl.out (vals_one xl) HVn.out HVc.out (by omega) (by omega) ?_; rintro A8 k8 w8 hR8 hK8 hT8; have HR8 := hid hR8; have HG8 := hid (hK8.grew HG.out (Row.at_base HR.out)); clear hR8 hK8 hT8)
      go_round
      case rel => exact ⟨i + 1, nn + xm, A8, k8, by go_num, by omega, rfl, hid (by rw [HNx.out, List.length_append, HNn.out, EXm.out]), hid (by rw [HNx.out, List.flatMap_append]; exact HR8.out), HG8⟩
      case measure => simp [intOf]; omega
    · obtain rfl : n = i := by omega
      have HTk := hid (show l.take n = l by rw [EN.out, List.take_length])
      rw [HTk.out] at HNn HR
      have HE := hid HNn.out
      go_wp2_with fail
      go_ret
      exact ⟨A', k', by rw [← HE.out]; rfl, row_vals HR.out HE.out (fun v hv => by
        obtain ⟨x, hx, hv⟩ := List.mem_flatMap.1 hv
        exact (HA.out.ok x hx).1 v hv), HG.out⟩
end Go.Proofs.YtidnaednldcdfaaGreatDoor

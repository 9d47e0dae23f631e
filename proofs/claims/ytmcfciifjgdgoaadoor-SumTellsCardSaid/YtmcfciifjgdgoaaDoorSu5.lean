/- Law 05: what must come whatever the input is. -/
import Derived.Test.YtmcfciifjgdgoaaDoorSu4
import Derived.Test.YtmcfciifjgdgoaaDoorLawNum5
import Derived.Lib.SlBytesConst
namespace Go.Proofs.YtmcfciifjgdgoaaDoor
open Go.RowKit

/-- A list of bytes as a string. -/
def strN (xs : List Nat) : ByteArray := strOfNums (xs.map (fun x : Nat => (x : Int)))
theorem conv5 (A : Option Addr) (c : Nat) (xs : List Nat) (w : World) (h : NumsAt .u8 w w.heap.size A xs) : (convert 43 9 (.slice A xs.length c)).run Tryd.prog w = .ok (.string (strN xs)) w :=
  (bytesIn4 w A xs h).convert (by simp) c _ _ _ Tryd.underlying43 Tryd.underlying5 Tryd.underlying9
theorem errVal_2 : errVal 2 = .iface 62 (.int .i64 2) := rfl
theorem errVal_5 : errVal 5 = .iface 62 (.int .i64 5) := rfl
theorem errVal_0 : errVal 0 = .nilIface := rfl
theorem bytes_lit {W : World} {cs : Array Value} {e : TypeId} {r : Nat × Nat} {L : List Nat} (h : cs = (numCells .u8 L).toArray) : NumsAt .u8 (W.alloc (.cells cs e r)) (W.alloc (.cells cs e r)).heap.size (some ⟨W.heap.size, 0, none⟩) L := by
  intro _
  refine ⟨_, rfl, by simp, fun j hj => ?_⟩
  have e1 : (⟨W.heap.size, 0, none⟩ : Addr).add j = ⟨W.heap.size, j, none⟩ := by simp [Addr.add]; omega
  rw [e1]
  have e2 : (W.alloc (.cells cs e r)).heap[W.heap.size]? = some (.cells cs e r) := heap_alloc_new W _
  unfold World.cell?
  simp only [e2]
  rw [h, List.getElem?_toArray]
  exact numCells_get _ _ _ hj

theorem sum_two (w : World) (t : TypeId) : Calls Tryd.prog 22 #[.slice (some ⟨w.heap.size + 1 + 1, 0, none⟩) 2 2]
    (((w.alloc (.cells #[.int .u8 87, .int .u8 105, .int .u8 107, .int .u8 105] 5 (4, 5))).alloc (.cells #[.int .u8 112, .int .u8 101, .int .u8 100, .int .u8 105, .int .u8 97] 5 (5, 6))).alloc (.cells #[.slice (some ⟨w.heap.size, 0, none⟩) 4 4, .slice (some ⟨w.heap.size + 1, 0, none⟩) 5 5] t))
    fun e w' => e = .returned (.int .u32 300286872) ∧ Grew w w' := by
  have n1 := bytes_lit (W := w) (cs := #[.int .u8 87, .int .u8 105, .int .u8 107, .int .u8 105]) (e := 5) (r := (4, 5)) (L := [87, 105, 107, 105]) rfl
  have g1 := (Grew.refl w).alloc (.cells #[.int .u8 87, .int .u8 105, .int .u8 107, .int .u8 105] 5 (4, 5))
  have s1 : (w.alloc (.cells #[.int .u8 87, .int .u8 105, .int .u8 107, .int .u8 105] 5 (4, 5))).heap.size = w.heap.size + 1 := by simp
  generalize w.alloc (.cells #[.int .u8 87, .int .u8 105, .int .u8 107, .int .u8 105] 5 (4, 5)) = wa at *
  have n2 := bytes_lit (W := wa) (cs := #[.int .u8 112, .int .u8 101, .int .u8 100, .int .u8 105, .int .u8 97]) (e := 5) (r := (5, 6)) (L := [112, 101, 100, 105, 97]) rfl
  have g2 := (Grew.refl wa).alloc (.cells #[.int .u8 112, .int .u8 101, .int .u8 100, .int .u8 105, .int .u8 97] 5 (5, 6))
  have s2 : (wa.alloc (.cells #[.int .u8 112, .int .u8 101, .int .u8 100, .int .u8 105, .int .u8 97] 5 (5, 6))).heap.size = wa.heap.size + 1 := by simp
  generalize wa.alloc (.cells #[.int .u8 112, .int .u8 101, .int .u8 100, .int .u8 105, .int .u8 97] 5 (5, 6)) = wb at *
  have b3 := Blk.new wb t #[.slice (some ⟨w.heap.size, 0, none⟩) 4 4, .slice (some ⟨w.heap.size + 1, 0, none⟩) 5 5]
  have g3 := (Grew.refl wb).alloc (.cells #[.slice (some ⟨w.heap.size, 0, none⟩) 4 4, .slice (some ⟨w.heap.size + 1, 0, none⟩) 5 5] t)
  rw [s2, s1] at b3
  rw [s1] at n2
  have n1' := (n1.grew g2).grew g3
  have n2' := n2.grew g3
  generalize wb.alloc (.cells #[.slice (some ⟨w.heap.size, 0, none⟩) 4 4, .slice (some ⟨w.heap.size + 1, 0, none⟩) 5 5] t) = wc at *
  refine (of_list [(some ⟨w.heap.size, 0, none⟩, 4, [87, 105, 107, 105]), (some ⟨w.heap.size + 1, 0, none⟩, 5, [112, 101, 100, 105, 97])] (w.heap.size + 1 + 1) 2 t wc b3 (fun p hp => ?_) (by simp)).mono ?_
  · rcases List.mem_cons.1 hp with rfl | hp
    · exact ⟨n1', (by decide : ∀ x ∈ ([87, 105, 107, 105] : List Nat), x < 256), (by decide : ([87, 105, 107, 105] : List Nat).length ≤ 100000)⟩
    · obtain rfl := List.mem_singleton.1 hp
      exact ⟨n2', (by decide : ∀ x ∈ ([112, 101, 100, 105, 97] : List Nat), x < 256), (by decide : ([112, 101, 100, 105, 97] : List Nat).length ≤ 100000)⟩
  · rintro e w' ⟨rfl, hg⟩
    refine ⟨?_, ((g1.trans g2).trans g3).trans hg⟩
    have h : Su.sum (([(some ⟨w.heap.size, 0, none⟩, 4, [87, 105, 107, 105]), (some ⟨w.heap.size + 1, 0, none⟩, 5, [112, 101, 100, 105, 97])] : List Piece).map (·.2.2)).flatten = 300286872 := by
      show Su.sum [87, 105, 107, 105, 112, 101, 100, 105, 97] = 300286872
      decide +kernel
    rw [h]
    rfl

set_option maxRecDepth 100000 in
set_option maxHeartbeats 2000000 in
theorem sure5_c (w : World) (hg : HandleAt w) : Calls Tryd.prog 19 #[] w fun e w' => e = .returned (.bool true) ∧ Grew w w' := by
  have HH := hid hg
  clear hg
  have C1 := hid (fun (W : World) => seal_c (some ⟨W.heap.size, 0, none⟩) 2 [97, 98] (W.alloc (.cells #[.int .u8 97, .int .u8 98] 5 (2, 3))) (bytes_lit rfl) (by decide) (by decide))
  have C3 := hid (fun (W : World) => open_c (some ⟨W.heap.size, 0, none⟩) 3 [97, 98, 99] (W.alloc (.cells #[.int .u8 97, .int .u8 98, .int .u8 99] 5 (3, 4))) (bytes_lit rfl) (by decide) (by decide) (by decide))
  have C4 := hid (fun (W : World) => open_c (some ⟨W.heap.size, 0, none⟩) 5 [97, 98, 99, 100, 101] (W.alloc (.cells #[.int .u8 97, .int .u8 98, .int .u8 99, .int .u8 100, .int .u8 101] 5 (5, 6))) (bytes_lit rfl) (by decide) (by decide) (by decide))
  have kc := fun (w : World) (C : Array Value) (n c : Nat) => Lib.run_convert_bytes_const (P := Tryd.prog) w 43 5 C n c Tryd.underlying43 Tryd.underlying5
  have kc2 := fun (w : World) (o : Obj) (C : Array Value) (n c : Nat) => (show (convert 43 43 (.slice (some ⟨w.heap.size + 1, 0, none⟩) n c)).run Tryd.prog ((w.alloc o).alloc (.cells C 5)) = .ok (.slice (some ⟨w.heap.size + 1, 0, none⟩) n c) ((w.alloc o).alloc (.cells C 5 (C.size, C.size + 1))) by
    have := Lib.run_convert_bytes_const (P := Tryd.prog) (w.alloc o) 43 5 C n c Tryd.underlying43 Tryd.underlying5
    rwa [World.size_alloc] at this)
  go_enter Tryd.func19, Tryd.ntmps19
  go_wp2_with fail
  refine (C1.out w).mono ?_
  rintro e w1 ⟨A1, c1, M1, rfl, hM1, hO1, hG1⟩
  have HG1 := hid (((Grew.refl w).alloc _).trans hG1)
  have HM1 := hid hM1
  have C2 := hid (open_c A1 c1 M1 w1 hO1.at (by rw [hM1]; exact Su.seald_byte (by decide)) (by rw [hM1, Su.seald_len]; decide) hO1.cap.1)
  clear C1 hM1 hO1 hG1
  go_wp2_with fail
  refine C2.out.mono ?_
  rintro e w2 ⟨A2, c2, L2, k2, rfl, hL2, hk2, hO2, hG2⟩
  have HG2 := hid (HG1.out.trans hG2)
  have HM2 := HM1.out
  have e2 : L2 = [97, 98] := by rw [hL2, HM2]; exact Su.openL_seald _
  have f2 : k2 = 0 := by rw [hk2, HM2]; exact Su.openE_seald _
  subst e2 f2
  have HN2 := hid hO2.at
  clear C2 hL2 hk2 hO2 hG2 HM1 HM2 HG1
  go_wp2_with fail
  refine (C3.out w2).mono ?_
  rintro e w3 ⟨A3, c3, L3, k3, rfl, hL3, hk3, hO3, hG3⟩
  have f3 : k3 = 2 := by rw [hk3]; rfl
  subst f3
  have HG3 := hid (((Grew.refl w2).alloc _).trans hG3)
  clear C3 hL3 hk3 hO3 hG3
  go_wp2_with fail
  refine (C4.out w3).mono ?_
  rintro e w4 ⟨A4, c4, L4, k4, rfl, hL4, hk4, hO4, hG4⟩
  have f4 : k4 = 5 := by rw [hk4]; decide +kernel
  subst f4
  have HG4 := hid (HG3.out.trans (((Grew.refl w3).alloc _).trans hG4))
  clear C4 hL4 hk4 hO4 hG4 HG3
  rw [errVal_0, errVal_2, errVal_5]
  go_wp2_with fail
  have CO := hid (sum_two w4 43)
  clear kc kc2
  refine CO.out.mono ?_
  rintro e w5 ⟨rfl, hG5⟩
  have HG5 := hid (HG4.out.trans hG5)
  have cv := conv5 A2 c2 [97, 98] w5 (HN2.out.grew HG5.out)
  rw [show strN [97, 98] = { data := #[97, 98] } from rfl, show ([97, 98] : List Nat).length = 2 from rfl] at cv
  have n1 := num5_c 2 w5 (HH.out.grew (HG2.out.trans HG5.out))
  rw [errVal_2] at n1
  clear hG5 CO HN2
  go_wp2_with fail
  refine n1.mono ?_
  rintro e w6 ⟨rfl, hG6⟩
  have n2 := num5_c 5 w6 (HH.out.grew (HG2.out.trans (HG5.out.trans hG6)))
  rw [errVal_5] at n2
  clear cv
  go_wp2_with fail
  refine n2.mono ?_
  rintro e w7 ⟨rfl, hG7⟩
  go_wp2_with fail
  go_ret
  exact ⟨rfl, HG2.out.trans (HG5.out.trans (hG6.trans hG7))⟩
end Go.Proofs.YtmcfciifjgdgoaaDoor

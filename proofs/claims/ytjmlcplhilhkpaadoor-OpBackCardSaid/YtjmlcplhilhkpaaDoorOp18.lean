/- The walks of law 07: what must come whatever the input is. -/
import Derived.Test.YtjmlcplhilhkpaaDoorOp17
import Derived.Test.YtjmlcplhilhkpaaDoorLawNum
import Derived.Laws.BytesArg
namespace Go.Proofs.YtjmlcplhilhkpaaDoor
open Go.RowKit

/-- The string of bytes. -/
def strOf (l : List Nat) : ByteArray := ⟨(l.map UInt8.ofNat).toArray⟩
theorem strOf_inj {a b : List Nat} (ha : ∀ x ∈ a, x < 256) (hb : ∀ x ∈ b, x < 256) (h : strOf a = strOf b) : a = b := by
  have h1 := congrArg (fun s => s.data.toList.map UInt8.toNat) h
  simp only [strOf, List.map_map] at h1
  have e2 : ∀ l : List Nat, (∀ x ∈ l, x < 256) → l.map (UInt8.toNat ∘ UInt8.ofNat) = l := by
    intro l hl
    conv => rhs; rw [← List.map_id l]
    apply List.map_congr_left
    intro x hx
    have := hl x hx
    simp
    omega
  rwa [e2 a ha, e2 b hb] at h1
theorem conv7 (A : Option Addr) (c : Nat) (xs : List Nat) (w : World) (h : NumsAt .u8 w w.heap.size A xs) (hx : ∀ x ∈ xs, x < 256) : (convert 23 9 (.slice A xs.length c)).run Tryd.prog w = .ok (.string (strOf xs)) w := by
  have key : ∀ ad, A = some ad → (convert 23 9 (.slice A xs.length c)).run Tryd.prog w = .ok (.string (strOf xs)) w := by
    rintro ad rfl
    have h1 := run_convert_bytes_back (P := Tryd.prog) w 23 9 5 ad c (xs.map UInt8.ofNat) Tryd.underlying23 Tryd.underlying5 Tryd.underlying9 (fun j hj => by
      rw [List.length_map] at hj
      obtain ⟨ad', e1, _, hc⟩ := h (by omega)
      obtain rfl := Option.some.inj e1
      rw [hc j hj]
      have hm := hx _ (List.getElem_mem hj)
      simp [List.getD_eq_getElem?_getD, List.getElem?_eq_getElem hj]
      omega)
    rw [List.length_map] at h1
    exact h1
  cases A with
  | some ad => exact key ad rfl
  | none =>
    have h0 : xs = [] := by
      rcases Nat.eq_zero_or_pos xs.length with h0 | h0
      · exact List.eq_nil_of_length_eq_zero h0
      · obtain ⟨_, e, _⟩ := h h0
        cases e
    subst h0
    exact run_convert_bytes_nil w 23 5 Tryd.underlying23 Tryd.underlying5 _ c 9 Tryd.underlying9
theorem Row8.cap {w : World} {B : Nat} {A : Option Addr} {c : Nat} {xs : List Nat} (h : Row8 w B A c xs) : xs.length ≤ c ∧ c ≤ 9223372036854775807 := by
  have := Row.cases h
  exact ⟨this.2.1, this.2.2.1⟩
theorem Row8.bytes {w : World} {B : Nat} {A : Option Addr} {c : Nat} {xs : List Nat} (h : Row8 w B A c xs) (hb : ∀ x ∈ xs, x < 256) : BytesAt w w.heap.size A xs := NumsAt.to_bytes h.nums hb
/-- Instructions that are a literal. -/
theorem ops_lit (w : World) (e : TypeId) (l : List Op7.Ins) (hl : ∀ o ∈ l, o.code < 256) : OpsAt (w.alloc (.cells (insCells l).toArray e)) (w.alloc (.cells (insCells l).toArray e)).heap.size (some ⟨w.heap.size, 0, none⟩) l := by
  refine ⟨hl, fun _ => ⟨_, rfl, by simp, fun i o ho j u hu => ?_⟩⟩
  rw [show (⟨w.heap.size, 0, none⟩ : Addr).add (i * 3 + j) = ⟨w.heap.size, i * 3 + j, none⟩ by unfold Addr.add; split <;> simp_all, (Blk.new w e (insCells l).toArray).cell (i * 3 + j), List.getElem?_toArray]
  exact insCells_at l i o ho j u hu
theorem nums_lit (k : IntKind) (w : World) (e : TypeId) (L : List Nat) : NumsAt k (w.alloc (.cells (numCells k L).toArray e)) (w.alloc (.cells (numCells k L).toArray e)).heap.size (some ⟨w.heap.size, 0, none⟩) L := by
  intro _
  refine ⟨_, rfl, by simp, fun j hj => ?_⟩
  rw [show (⟨w.heap.size, 0, none⟩ : Addr).add j = ⟨w.heap.size, j, none⟩ by unfold Addr.add; split <;> simp_all, (Blk.new w e (numCells k L).toArray).cell j, List.getElem?_toArray]
  exact numCells_get _ _ _ hj
def s7 : List Op7.Ins := [⟨11, 3, 1⟩, ⟨14, 258, 7⟩, ⟨17, 0, 0⟩]
def b7 : List Nat := [11, 3, 1, 14, 1, 2, 0, 7, 17]
theorem errVal_8 : errVal 8 = .iface 52 (.int .i64 8) := rfl
theorem errVal_0 : errVal 0 = .nilIface := rfl
theorem s7_enc : encR s7 = (b7, 0) := by decide +kernel
theorem b7_dec : Op7.decR b7 = (s7, [0, 3, 8], 0) := by decide +kernel
theorem u7_enc : encR [⟨4, 256, 0⟩] = ([], 8) := by decide +kernel
theorem u7_dec : Op7.decR [4] = ([], [], 8) := by decide +kernel
theorem b7_byte : ∀ x ∈ b7, x < 256 := by decide
theorem sure7_1 (w : World) (hT : TabAt w) : Calls Tryd.prog 8 #[.slice (some ⟨w.heap.size, 0, none⟩) 3 3] (w.alloc (.cells #[.int .u8 11, .int .i64 3, .int .i64 1, .int .u8 14, .int .i64 258, .int .i64 7, .int .u8 17, .int .i64 0, .int .i64 0] 51)) fun e w' => ∃ A c, e = .returned (.tuple #[.slice A 9 c, .nilIface]) ∧ Row8 w' w.heap.size A c b7 ∧ Grew w w' := by
  have hg := (Grew.refl w).alloc (.cells (insCells s7).toArray 51)
  have := oencode_c (some ⟨w.heap.size, 0, none⟩) 3 s7 (w.alloc (.cells (insCells s7).toArray 51)) (ops_lit w _ s7 (by decide)) (hT.grew hg) (by decide)
  refine this.mono fun e w' ⟨A, c, L, h1, h2, h3, h4⟩ => ?_
  rw [s7_enc] at h1 h2
  subst h2
  exact ⟨A, c, h1, Row.low h3 hg.below.size, hg.trans h4⟩
theorem sure7_2 (w0 w : World) (hT : TabAt w) (A : Option Addr) (c : Nat) (h : Row8 w w0.heap.size A c b7) : Calls Tryd.prog 11 #[.slice A 9 c] w fun e w' => ∃ g c1 A2 c2, e = .returned (.tuple #[.slice (some ⟨g, 0, none⟩) 3 c1, .slice A2 3 c2, .nilIface]) ∧ g < w'.heap.size ∧ w'.cell? ⟨g, 4, none⟩ = some (.int .i64 258) ∧ NumsAt .i64 w' w'.heap.size A2 [0, 3, 8] ∧ Grew w w' := by
  have := odecode_c A c b7 w (h.bytes b7_byte) hT h.cap.1 h.cap.2
  refine this.mono fun e w' ⟨A1, c1, A2, c2, L, h1, h2, h3, h4, h5⟩ => ?_
  rw [b7_dec] at h1 h2 h4
  subst h2
  rcases h3.1.cases with ⟨_, _, _, ⟨_, h0, _⟩ | ⟨g, rfl, _, hlt, hc, _⟩⟩
  · cases h0
  · exact ⟨g, c1, A2, c2, h1, hlt, hc 4 _ rfl, h4.nums, h5⟩
theorem sure7_3 (w0 w : World) (hg0 : Grew w0 w) (hT : TabAt w) : Calls Tryd.prog 8 #[.slice (some ⟨w.heap.size, 0, none⟩) 1 1] (w.alloc (.cells #[.int .u8 4, .int .i64 256, .int .i64 0] 51)) fun e w' => ∃ A c, e = .returned (.tuple #[.slice A 0 c, errVal 8]) ∧ Grew w0 w' := by
  have hg := (Grew.refl w).alloc (.cells (insCells [⟨4, 256, 0⟩]).toArray 51)
  have := oencode_c (some ⟨w.heap.size, 0, none⟩) 1 [⟨4, 256, 0⟩] (w.alloc (.cells (insCells [⟨4, 256, 0⟩]).toArray 51)) (ops_lit w _ [⟨4, 256, 0⟩] (by decide)) (hT.grew hg) (by decide)
  refine this.mono fun e w' ⟨A, c, L, h1, h2, h3, h4⟩ => ?_
  rw [u7_enc] at h1 h2
  subst h2
  exact ⟨A, c, h1, (hg0.trans hg).trans h4⟩
theorem sure7_4 (w0 w : World) (hg0 : Grew w0 w) (hT : TabAt w) : Calls Tryd.prog 11 #[.slice (some ⟨w.heap.size, 0, none⟩) 1 1] (w.alloc (.cells #[.int .u8 4] 5)) fun e w' => ∃ A1 c1 A2 c2, e = .returned (.tuple #[.slice A1 0 c1, .slice A2 0 c2, errVal 8]) ∧ Grew w0 w' := by
  have hg := (Grew.refl w).alloc (.cells #[.int .u8 4] 5)
  have := odecode_c (some ⟨w.heap.size, 0, none⟩) 1 [4] (w.alloc (.cells #[.int .u8 4] 5)) (NumsAt.to_bytes (NumsAt.one .u8 w 5 4) (by decide)) (hT.grew hg) (by decide) (by decide)
  refine this.mono fun e w' ⟨A1, c1, A2, c2, L, h1, h2, h3, h4, h5⟩ => ?_
  rw [u7_dec] at h1 h2
  subst h2
  exact ⟨A1, c1, A2, c2, h1, (hg0.trans hg).trans h5⟩
theorem sure7_5 (w0 w : World) (hg0 : Grew w0 w) (A : Option Addr) (c : Nat) (h : NumsAt .i64 w w.heap.size A [0, 3, 8]) : Calls Tryd.prog 17 #[.slice A 3 c, .slice (some ⟨w.heap.size, 0, none⟩) 3 3] (w.alloc (.cells #[.int .i64 0, .int .i64 3, .int .i64 8] 3)) fun e w' => e = .returned (.bool true) ∧ Grew w0 w' := by
  have hg := (Grew.refl w).alloc (.cells (numCells .i64 [0, 3, 8]).toArray 3)
  have := ints_c A c [0, 3, 8] (some ⟨w.heap.size, 0, none⟩) 3 [0, 3, 8] (w.alloc (.cells (numCells .i64 [0, 3, 8]).toArray 3)) (h.grew hg) (nums_lit .i64 w _ [0, 3, 8]) (by decide)
  exact this.mono fun e w' ⟨h1, h2⟩ => ⟨h1, (hg0.trans hg).trans h2⟩
theorem sure7_6 (w : World) (hT : TabAt w) : Calls Tryd.prog 18 #[.int .u8 20] w fun e w' => e = .returned (.string ⟨#[99, 108, 97, 115, 115]⟩) ∧ Grew w w' := oname_c 20 w (by decide) hT
theorem sure7_7 (w : World) (hT : TabAt w) : Calls Tryd.prog 20 #[.int .u8 21] w fun e w' => e = .returned (.int .i64 0) ∧ Grew w w' := osize_c 21 w (by decide) hT
theorem sure7_8 (w0 w : World) (hg0 : Grew w0 w) (hh : HandleAt w) : Calls Tryd.prog 15 #[.iface 52 (.int .i64 8)] w fun e w' => e = .returned (.int .i64 8) ∧ Grew w0 w' := (num_c 8 w hh).mono fun _ _ ⟨h1, h2⟩ => ⟨h1, hg0.trans h2⟩

set_option maxRecDepth 100000 in
set_option maxHeartbeats 2000000 in
theorem sure_c (w : World) (hg : HandleAt w) (hT : TabAt w) : Calls Tryd.prog 7 #[] w fun e w' => e = .returned (.bool true) ∧ Grew w w' := by
  have Hg := hid hg
  have HT := hid hT
  clear hg hT
  go_enter Tryd.func7, Tryd.ntmps7
  go_wp2_with fail
  refine (sure7_1 w HT.out).mono ?_
  rintro e w1 ⟨A, c, rfl, hR, hG⟩
  have HR := hid hR
  have HG1 := hid hG
  clear hR hG
  go_wp2_with fail
  refine (sure7_2 w w1 (HT.out.grew HG1.out) A c HR.out).mono ?_
  rintro e w2 ⟨g, c1, A2, c2, rfl, hg, hcell, hN, hG⟩
  have HN := hid hN
  have HG2 := hid (HG1.out.trans hG)
  have HCV := hid (show ∀ w', Grew w2 w' → (convert 23 9 (.slice A 9 c)).run Tryd.prog w' = .ok (.string ⟨#[11, 3, 1, 14, 1, 2, 0, 7, 17]⟩) w' from fun w' hg' => conv7 A c b7 w' (HR.out.grew (hG.trans hg')).nums b7_byte)
  have Hh := hid (fun w' (hg : Grew w2 w') => Hg.out.grew (HG2.out.trans hg))
  have Ht := hid (fun w' (hg : Grew w2 w') => HT.out.grew (HG2.out.trans hg))
  clear hN hG Hg HT HR
  go_wp2_with fail
  refine (sure7_3 w2 w2 (Grew.refl _) (Ht.out _ (Grew.refl _))).mono ?_
  rintro e w3 ⟨A3, c3, rfl, y3, rfl⟩
  rw [errVal_8]
  go_wp2_with fail
  refine (sure7_4 w2 _ y3.grew (Ht.out _ y3.grew)).mono ?_
  rintro e w3 ⟨A4, c4, A5, c5, rfl, y4, rfl⟩
  rw [errVal_8]
  have hcv := HCV.out _ y4.grew
  go_wp2_with fail
  refine (sure7_5 w2 _ y4.grew A2 c2 (HN.out.grew y4.grew)).mono ?_
  rintro e w3 ⟨rfl, y5, rfl⟩
  go_wp2_with fail
  refine (sure7_8 w2 _ y5.grew (Hh.out _ y5.grew)).mono ?_
  rintro e w3 ⟨rfl, y6, rfl⟩
  go_wp2_with fail
  refine (sure7_8 w2 _ y6.grew (Hh.out _ y6.grew)).mono ?_
  rintro e w3 ⟨rfl, y7, rfl⟩
  go_wp2_with fail
  refine (Calls.grew y7.grew (sure7_6 _ (Ht.out _ y7.grew))).mono ?_
  rintro e w3 ⟨rfl, y8, rfl⟩
  go_wp2_with fail
  refine (Calls.grew y8.grew (sure7_7 _ (Ht.out _ y8.grew))).mono ?_
  rintro e w3 ⟨rfl, y9, rfl⟩
  go_wp2_with fail
  go_ret
  exact ⟨rfl, HG2.out.trans y9.grew⟩
end Go.Proofs.YtjmlcplhilhkpaaDoor

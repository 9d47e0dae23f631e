/- Law 06: a Writer and a Reader that the call itself has made; what must come whatever the input is. -/
import Derived.Test.YtglekjhbpdoofaaDoorPk11
import Derived.Test.YtglekjhbpdoofaaDoorLawNum
namespace Go.Proofs.YtglekjhbpdoofaaDoor
open Go.RowKit

/-- A Writer made since 'W'. -/
def WS (W w : World) (g : Nat) (xs : List Nat) : Prop := ∃ Y, WrAt w W.heap.size g xs Y ∧ Grew W w
/-- A Reader made since 'W'. -/
def RS (W w : World) (lo g : Nat) (st : Pk.St) : Prop := RdAt w lo g st ∧ W.heap.size ≤ lo ∧ lo ≤ g ∧ Grew W w
theorem WS.above {W w : World} {g : Nat} {xs : List Nat} (h : WS W w g xs) : Grew W w := by obtain ⟨_, _, h⟩ := h; exact h
theorem WS.grew {W w w' : World} {g : Nat} {xs : List Nat} (h : WS W w g xs) (hg : Grew w w') : WS W w' g xs := by
  obtain ⟨Y, h1, h2⟩ := h
  exact ⟨Y, h1.grew hg, h2.trans hg⟩
theorem RS.grew {W w w' : World} {lo g : Nat} {st : Pk.St} (h : RS W w lo g st) (hg : Grew w w') : RS W w' lo g st :=
  ⟨h.1.grew hg h.2.2.1, h.2.1, h.2.2.1, h.2.2.2.trans hg⟩
theorem RS.done {W w w' : World} {lo g : Nat} {st st' : Pk.St} (h : RS W w lo g st) (hr : RdAt w' lo g st') (hk : Kept (· = g) w w') : RS W w' lo g st' :=
  ⟨hr, h.2.1, h.2.2.1, hk.grew h.2.2.2 (fun k e => by have := h.2.1; have := h.2.2.1; omega)⟩
theorem WS.new {W w : World} (hg : Grew W w) : WS W (w.alloc (.cells #[.pointer none, .int .i64 0] 43)) w.heap.size [] :=
  ⟨(· = w.heap.size), ⟨fun k e => by subst e; exact ⟨hg.below.size, by simp⟩, rfl, by simp, .inl ⟨Blk.new _ _ _, rfl⟩⟩, hg.alloc _⟩
def WSPost (W : World) (g : Nat) (xs : List Nat) (e : Ending) (w' : World) : Prop := e = .returned (.tuple #[]) ∧ WS W w' g xs
theorem WroteR.ws {W w w' : World} {g : Nat} {xs bs : List Nat} {Y : Nat → Prop} {e : Ending} (hg : Grew W w) (hY : ∀ k, Y k → W.heap.size ≤ k) (h : WroteR w W.heap.size g xs bs Y e w') : WSPost W g (xs ++ bs) e w' := by
  obtain ⟨he, Y2, h1, h2, h3⟩ := h
  exact ⟨he, Y2, h1, h3.grew hg hY⟩
theorem ints_lit (w : World) (t : TypeId) (L : List Int) (hL : ∀ x ∈ L, Vi.I64 x) : IntsAt (w.alloc (.cells (intCells L).toArray t)) (w.alloc (.cells (intCells L).toArray t)).heap.size (some ⟨w.heap.size, 0, none⟩) L := by
  refine ⟨hL, fun _ => ⟨_, rfl, by simp, fun j hj => ?_⟩⟩
  have e1 : (⟨w.heap.size, 0, none⟩ : Addr).add j = ⟨w.heap.size, j, none⟩ := by simp [Addr.add]; omega
  rw [e1]
  have := (Blk.new w t (intCells L).toArray).cell j
  rw [this, List.getElem?_toArray]
  simp [intCells, List.getD_eq_getElem?_getD, List.getElem?_eq_getElem hj]
theorem wint_lit {W w : World} {g : Nat} {xs : List Nat} (h : WS W w g xs) (L : List Int) (n H : Nat) (t : TypeId) (hn : L.length = n) (hH : w.heap.size = H) (hL : ∀ x ∈ L, Vi.I64 x) (hl : xs.length + 10 * L.length ≤ 1000000000000) :
    Calls Tryd.prog 22 #[.pointer (some ⟨g, 0, none⟩), .slice (some ⟨H, 0, none⟩) n n] (w.alloc (.cells (intCells L).toArray t)) (WSPost W g (xs ++ Pk.encs L)) := by
  obtain ⟨Y, h1, h2⟩ := h
  subst hn hH
  exact (wint_c W.heap.size g xs Y _ _ L _ (h1.grew ((Grew.refl w).alloc _)) (h2.alloc _).below.size (ints_lit w t L hL) (fun ad e _ hy => by cases e; have := (h1.1 _ hy).2; simp at this) hl).mono fun e w' hw => WroteR.ws (h2.alloc _) (fun k hk => (h1.1 k hk).1) hw
theorem wints_lit {W w : World} {g : Nat} {xs : List Nat} (h : WS W w g xs) (L : List Int) (n H : Nat) (t : TypeId) (hn : L.length = n) (hH : w.heap.size = H) (hL : ∀ x ∈ L, Vi.I64 x) (hl : xs.length + 10 * L.length + 10 ≤ 1000000000000) :
    Calls Tryd.prog 23 #[.pointer (some ⟨g, 0, none⟩), .slice (some ⟨H, 0, none⟩) n n] (w.alloc (.cells (intCells L).toArray t)) (WSPost W g (xs ++ (Vi.enc (L.length : Int) ++ Pk.encs L))) := by
  obtain ⟨Y, h1, h2⟩ := h
  subst hn hH
  exact (wints_c W.heap.size g xs Y _ _ L _ (h1.grew ((Grew.refl w).alloc _)) (h2.alloc _).below.size (ints_lit w t L hL) (fun ad e _ => by cases e; exact ⟨fun hy => by have := (h1.1 _ hy).2; simp at this, by simp⟩) hl).mono fun e w' hw => WroteR.ws (h2.alloc _) (fun k hk => (h1.1 k hk).1) hw
theorem wtext_ws {W w : World} {g : Nat} {xs : List Nat} (h : WS W w g xs) (s : ByteArray) (hl : xs.length + s.size + 10 ≤ 1000000000000) :
    Calls Tryd.prog 7 #[.pointer (some ⟨g, 0, none⟩), .string s] w (WSPost W g (xs ++ (Vi.enc (s.size : Int) ++ Pk.natsOf s))) := by
  obtain ⟨Y, h1, h2⟩ := h
  exact (wtext_c W.heap.size g xs Y s w h1 h2.below.size hl).mono fun e w' hw => WroteR.ws h2 (fun k hk => (h1.1 k hk).1) hw
theorem write_ws {W w : World} {g : Nat} {xs : List Nat} (h : WS W w g xs) (v : FdV) (hv : FdOk W W.heap.size v) (hl : xs.length + 10 * v.f.l.length + v.f.s.size + 10 ≤ 1000000000000) :
    Calls Tryd.prog 6 #[.pointer (some ⟨g, 0, none⟩), .agg v.cells] w (WSPost W g (xs ++ Pk.put v.f)) := by
  obtain ⟨Y, h1, h2⟩ := h
  exact (write_c W.heap.size g xs Y v w h1 h2.below.size ((hv.kept (F := fun _ => False) (.of_grew h2) (Nat.le_refl _) (fun _ _ _ h => h)).wide h2.below.size) (fun ad e hn hy => by
    have := (h1.1 _ hy).1
    have := hv.lb ad e hn
    omega) hl).mono fun e w' hw => WroteR.ws h2 (fun k hk => (h1.1 k hk).1) hw
theorem all_ws {W w : World} {g : Nat} {xs : List Nat} (h : WS W w g xs) (hl : xs.length ≤ 1000000000000) :
    Calls Tryd.prog 8 #[.pointer (some ⟨g, 0, none⟩)] w (AllPost w xs) := by
  obtain ⟨Y, h1, h2⟩ := h
  exact all_c W.heap.size g xs Y w h1 hl
theorem AllPost.bytes {w w' : World} {xs : List Nat} {A : Option Addr} {c : Nat} (hx : ∀ x ∈ xs, x < 256) (h : Row w' w.heap.size 5 1 A xs.length c (numCells .u8 xs)) : BytesAt w' w'.heap.size A xs := NumsAt.to_bytes h.nums hx

theorem rdone_ok {w : World} {lo g : Nat} (h : RdAt w lo g (some [])) : Calls Tryd.prog 13 #[.pointer (some ⟨g, 0, none⟩)] w fun e w' => e = .returned .nilIface ∧ w' = w :=
  (rdone_c lo g (some []) w h).mono fun _ _ h => h
theorem rdone_no {w : World} {lo g : Nat} {st : Pk.St} (h : RdAt w lo g st) (hne : st ≠ some []) : Calls Tryd.prog 13 #[.pointer (some ⟨g, 0, none⟩)] w fun e w' => e = .returned (errVal 2) ∧ w' = w :=
  (rdone_c lo g st w h).mono fun e w' h => by
    obtain ⟨h1, h2⟩ := h
    rw [if_neg hne] at h1
    exact ⟨h1, h2⟩

/-- The bytes of the fixed example. -/
def sure6 : List Nat := [172, 2, 127, 2, 97, 98, 2, 5, 6]

set_option maxRecDepth 100000 in
set_option maxHeartbeats 4000000 in
theorem sure6_c (w : World) (hg : HandleAt w) : Calls Tryd.prog 15 #[] w fun e w' => e = .returned (.bool true) ∧ Grew w w' := by
  have Hg := hid hg
  clear hg
  have S0 := hid (WS.new (Grew.refl w))
  have C1 := hid (show Calls Tryd.prog 22 #[.pointer (some ⟨w.heap.size, 0, none⟩), .slice (some ⟨w.heap.size + 1, 0, none⟩) 2 2] ((w.alloc (.cells #[.pointer none, .int .i64 0] 43)).alloc (.cells #[.int .i64 300, .int .i64 (-1)] 3)) (WSPost w w.heap.size [172, 2, 127]) from by
    have := wint_lit S0.out [300, -1] 2 (w.heap.size + 1) 3 rfl (by simp) (by intro x hx; simp at hx; unfold Vi.I64; omega) (by simp)
    rwa [show [] ++ Pk.encs [300, -1] = [172, 2, 127] by decide +kernel] at this)
  clear S0
  go_enter Tryd.func15, Tryd.ntmps15
  go_wp2_with fail
  refine C1.out.mono ?_
  rintro e w1 ⟨rfl, hw1⟩
  have C2 := hid (show Calls Tryd.prog 7 #[.pointer (some ⟨w.heap.size, 0, none⟩), .string ⟨#[97, 98]⟩] w1 (WSPost w w.heap.size [172, 2, 127, 2, 97, 98]) from by
    have := wtext_ws hw1 ⟨#[97, 98]⟩ (by decide)
    rwa [show [172, 2, 127] ++ (Vi.enc (((⟨#[97, 98]⟩ : ByteArray).size : Nat) : Int) ++ Pk.natsOf ⟨#[97, 98]⟩) = [172, 2, 127, 2, 97, 98] by decide +kernel] at this)
  clear hw1 C1
  go_wp2_with fail
  refine C2.out.mono ?_
  rintro e w2 ⟨rfl, hw2⟩
  have C3 := hid (show Calls Tryd.prog 23 #[.pointer (some ⟨w.heap.size, 0, none⟩), .slice (some ⟨w2.heap.size, 0, none⟩) 2 2] (w2.alloc (.cells #[.int .i64 5, .int .i64 6] 3)) (WSPost w w.heap.size sure6) from by
    have := wints_lit hw2 [5, 6] 2 w2.heap.size 3 rfl rfl (by intro x hx; simp at hx; unfold Vi.I64; omega) (by simp)
    rwa [show [172, 2, 127, 2, 97, 98] ++ (Vi.enc ((([5, 6] : List Int).length : Nat) : Int) ++ Pk.encs [5, 6]) = sure6 by decide +kernel] at this)
  clear hw2 C2
  go_wp2_with fail
  refine C3.out.mono ?_
  rintro e w3 ⟨rfl, hw3⟩
  have C4 := hid (all_ws hw3 (by decide))
  have HG3 := hid hw3.above
  clear hw3 C3
  go_wp2_with fail
  refine C4.out.mono ?_
  rintro e w4 ⟨A4, c4, rfl, hR4, hG4⟩
  have C5 := hid (read_c A4 c4 sure6 w4 (AllPost.bytes (by decide) hR4) (by decide))
  have HG4 := hid (HG3.out.trans hG4)
  clear hR4 hG4 C4 HG3
  go_wp2_with fail
  refine C5.out.mono ?_
  rintro e w5 ⟨g, rfl, hge, hR5, hG5⟩
  have R5 := hid (show RS w w5 w4.heap.size g (some sure6) from ⟨hR5, HG4.out.below.size, hge, HG4.out.trans hG5⟩)
  clear hR5 hG5 C5 HG4
  have C6 := hid (rint_c w4.heap.size g (some sure6) 300 300 w5 R5.out.1)
  rw [show Pk.int (some sure6) 300 300 = (300, some [127, 2, 97, 98, 2, 5, 6]) by decide +kernel] at C6
  go_wp2_with fail
  refine C6.out.mono ?_
  rintro e w6 ⟨rfl, hR, hK⟩
  have R6 := hid (R5.out.done hR hK)
  have C7 := hid (rint_c w4.heap.size g (some [127, 2, 97, 98, 2, 5, 6]) (-1) 0 w6 hR)
  rw [show Pk.int (some [127, 2, 97, 98, 2, 5, 6]) (-1) 0 = (-1, some [2, 97, 98, 2, 5, 6]) by decide +kernel] at C7
  clear hR hK C6 R5
  go_wp2_with fail
  refine C7.out.mono ?_
  rintro e w7 ⟨rfl, hR, hK⟩
  have R7 := hid (R6.out.done hR hK)
  have C8 := hid (show Calls Tryd.prog 11 #[.pointer (some ⟨g, 0, none⟩), .int .i64 2] w7 (fun e w' => e = .returned (.string ⟨#[97, 98]⟩) ∧ RdAt w' w4.heap.size g (some [2, 5, 6]) ∧ Kept (· = g) w7 w') from by
    have := rtext_c w4.heap.size g (some [2, 97, 98, 2, 5, 6]) 2 w7 hR
    rw [show Pk.text (some [2, 97, 98, 2, 5, 6]) 2 = ([97, 98], some [2, 5, 6]) by decide +kernel] at this
    exact this.mono fun _ _ h => h)
  clear hR hK C7 R6
  go_wp2_with fail
  refine C8.out.mono ?_
  rintro e w8 ⟨rfl, hR, hK⟩
  have R8 := hid (R7.out.done hR hK)
  have C9 := hid (show Calls Tryd.prog 10 #[.pointer (some ⟨g, 0, none⟩), .int .i64 2, .int .i64 5, .int .i64 6] w8 (fun e w' => ∃ A c, e = .returned (.slice A 2 c) ∧ IntsAt w' w'.heap.size A [5, 6] ∧ (∀ ad, A = some ad → ad.block ≠ g) ∧ RdAt w' w4.heap.size g (some []) ∧ Kept (· = g) w8 w') from by
    have hlt := hR.lt
    have := rints_c w4.heap.size g (some [2, 5, 6]) 2 5 6 w8 hR hge (by decide)
    rw [show Pk.ints (some [2, 5, 6]) 2 5 6 = ([5, 6], some []) by decide +kernel] at this
    exact this.mono fun e w' ⟨A, c, h1, h2, h3, h4⟩ => ⟨A, c, h1, Row.ints h2 (by intro x hx; simp at hx; unfold Vi.I64; omega), fun ad e => by have := (h2.in ad e).1; omega, h3, h4⟩)
  clear hR hK C8 R7
  go_wp2_with fail
  refine C9.out.mono ?_
  rintro e w9 ⟨A9, c9, rfl, hI9, hne9, hR, hK⟩
  have R9 := hid (R8.out.done hR hK)
  have CA := hid (rdone_ok hR)
  have CB := hid (rint_c w4.heap.size g (some []) 0 9 w9 hR)
  rw [show Pk.int (some []) 0 9 = (0, none) by decide +kernel] at CB
  have HI9 := hid (And.intro hI9 hne9)
  clear hR hK C9 R8 hI9 hne9
  go_wp2_with fail
  refine CA.out.mono ?_
  rintro e w9 ⟨rfl, rfl⟩
  go_wp2_with fail
  refine CB.out.mono ?_
  rintro e w10 ⟨rfl, hR, hK⟩
  have RB := hid (R9.out.done hR hK)
  have HIA := hid ((HI9.out.1.kept hK (Nat.le_refl _) (fun ad e _ => HI9.out.2 ad e)).wide hK.size)
  have CC := hid (show Calls Tryd.prog 21 #[.slice A9 2 c9, .slice (some ⟨w10.heap.size, 0, none⟩) 2 2] (w10.alloc (.cells #[.int .i64 5, .int .i64 6] 3)) (fun e w' => e = .returned (.bool true) ∧ Grew w10 w') from by
    have := ints_c A9 c9 [5, 6] (some ⟨w10.heap.size, 0, none⟩) 2 [5, 6] (w10.alloc (.cells (intCells [5, 6]).toArray 3)) ((HIA.out.kept (F := fun _ => False) (.of_grew ((Grew.refl w10).alloc _)) (Nat.le_refl _) (fun _ _ _ h => h)).wide (by simp)) (ints_lit w10 _ [5, 6] (by intro x hx; simp at hx; unfold Vi.I64; omega)) (by simp)
    exact this.mono fun e w' ⟨h1, h2⟩ => ⟨h1, ((Grew.refl w10).alloc _).trans h2⟩)
  clear hR hK CA CB R9 HI9 HIA
  go_wp2_with fail
  refine CC.out.mono ?_
  rintro e w11 ⟨rfl, hg⟩
  have RC := hid (RB.out.grew hg)
  clear hg CC RB
  have CD := hid (rdone_no RC.out.1 (by simp))
  go_wp2_with fail
  refine CD.out.mono ?_
  rintro e w11 ⟨rfl, rfl⟩
  clear CD
  go_wp2_with fail
  refine (num_c 2 _ (Hg.out.grew RC.out.2.2.2)).mono ?_
  rintro e w12 ⟨rfl, hg⟩
  have HE := hid (RC.out.2.2.2.trans hg)
  clear hg
  go_wp2_with fail
  go_ret
  exact ⟨rfl, HE.out⟩
end Go.Proofs.YtglekjhbpdoofaaDoor

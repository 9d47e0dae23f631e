/- Law 03's own 'sure': its fixed examples. -/
import Derived.Test.YtmcfciifjgdgoaaDoorPl13
import Derived.Test.YtmcfciifjgdgoaaDoorPl9
import Derived.Test.YtmcfciifjgdgoaaDoorPl10
import Derived.Test.YtmcfciifjgdgoaaDoorPl15
import Derived.Test.YtmcfciifjgdgoaaDoorMg13
import Derived.Test.YtmcfciifjgdgoaaDoorLawNum
namespace Go.Proofs.YtmcfciifjgdgoaaDoor
open Go.RowKit

theorem one_rep {x : Nat} (h0 : 0 < x) (h : x < 4294967296) (neg : Bool) : Lg.Rep neg [x] (Lg.sgn neg x) :=
  ⟨one_low h, by simp [Dg.Top]; omega, by rw [one_val, Lg.sgn_abs], by rw [← Lg.sgn_neg, decide_eq_true (by omega), Bool.and_true]⟩
theorem out_is {z : Int} {ng neg : Bool} {L xs : List Nat} {k : Nat} (h : Lg.Out z ng L k) (r : Lg.Rep neg xs z) (hl : xs.length ≤ 64) : ng = neg ∧ L = xs ∧ k = 0 := h.inj (Lg.Out.of_rep r hl)
theorem two_rep {x y : Nat} (h0 : x < 4294967296) (h1 : 0 < y) (h : y < 4294967296) (neg : Bool) : Lg.Rep neg [x, y] (Lg.sgn neg (x + 4294967296 * y)) :=
  ⟨Dg.Low.cons h0 (one_low h), by simp [Dg.Top]; omega, by rw [Dg.val_cons, one_val, Lg.sgn_abs], by rw [← Lg.sgn_neg, decide_eq_true (by omega), Bool.and_true]⟩

theorem sure_a (w : World) : Calls Tryd.prog 18 #[.string ⟨#[52, 50, 57, 52, 57, 54, 55, 50, 57, 54]⟩] w fun e w' => ∃ A c, e = .returned (.tuple #[.agg #[.bool false, .slice A 2 c], .nilIface]) ∧ OwnNums .u32 w w' 48 A c [0, 1] ∧ Grew w w' := by
  refine (pparse_c _ w (by decide)).mono ?_
  rintro e w' ⟨A, c, ng, L, k, rfl, hO, hP, hg⟩
  have h := hP.yes (by decide +kernel)
  rw [show Lg.numOf (Lg.bytes ⟨#[52, 50, 57, 52, 57, 54, 55, 50, 57, 54]⟩) = Lg.sgn false (0 + 4294967296 * 1) by decide +kernel] at h
  obtain ⟨rfl, rfl, rfl⟩ := out_is h (two_rep (by decide) (by decide) (by decide) false) (by decide)
  exact ⟨A, c, rfl, hO, hg⟩
theorem sure_j (w : World) : Calls Tryd.prog 18 #[.string ⟨#[45, 48]⟩] w fun e w' => ∃ A c, e = .returned (.tuple #[.agg #[.bool false, .slice A 0 c], errVal 2]) ∧ Grew w w' := by
  refine (pparse_c _ w (by decide)).mono ?_
  rintro e w' ⟨A, c, ng, L, k, rfl, hO, hP, hg⟩
  obtain ⟨rfl, rfl, rfl⟩ := hP.no (by decide +kernel)
  exact ⟨_, _, rfl, hg⟩
theorem of_is {n : Int} (x : Nat) (h0 : 0 < x) (hx : x < 4294967296) (hn : n = Lg.sgn (decide (n < 0)) x) (w : World) (h1 : -9223372036854775808 ≤ n) (h2 : n ≤ 9223372036854775807) :
    Calls Tryd.prog 27 #[.int .i64 n] w fun e w' => ∃ A c, e = .returned (.agg #[.bool (decide (n < 0)), .slice A 1 c]) ∧ OwnNums .u32 w w' 48 A c [x] ∧ Grew w w' := by
  refine (pof_c n w h1 h2).mono ?_
  rintro e w' ⟨A, c, xs, rfl, hO, hr, hg⟩
  have h := one_rep h0 hx (decide (n < 0))
  rw [← hn] at h
  obtain ⟨_, rfl⟩ := hr.inj h
  exact ⟨A, c, rfl, hO, hg⟩
theorem sure_m3 (w : World) : Calls Tryd.prog 27 #[.int .i64 (-3)] w fun e w' => ∃ A c, e = .returned (.agg #[.bool true, .slice A 1 c]) ∧ OwnNums .u32 w w' 48 A c [3] ∧ Grew w w' := of_is (n := -3) 3 (by decide) (by decide) (by decide) w (by decide) (by decide)
theorem sure_m7 (w : World) : Calls Tryd.prog 27 #[.int .i64 (-7)] w fun e w' => ∃ A c, e = .returned (.agg #[.bool true, .slice A 1 c]) ∧ OwnNums .u32 w w' 48 A c [7] ∧ Grew w w' := of_is (n := -7) 7 (by decide) (by decide) (by decide) w (by decide) (by decide)
theorem sure_2 (w : World) : Calls Tryd.prog 27 #[.int .i64 2] w fun e w' => ∃ A c, e = .returned (.agg #[.bool false, .slice A 1 c]) ∧ OwnNums .u32 w w' 48 A c [2] ∧ Grew w w' := of_is (n := 2) 2 (by decide) (by decide) (by decide) w (by decide) (by decide)
theorem sure_b (A : Option Addr) (c : Nat) (B : Option Addr) (d : Nat) (w : World) (ha : NumsAt .u32 w w.heap.size A [0, 1]) (hb : NumsAt .u32 w w.heap.size B [3]) :
    Calls Tryd.prog 12 #[.agg #[.bool false, .slice A 2 c], .agg #[.bool true, .slice B 1 d]] w fun e w' => ∃ A c, e = .returned (.tuple #[.agg #[.bool true, .slice A 2 c], .nilIface]) ∧ OwnNums .u32 w w' 48 A c [0, 3] ∧ Grew w w' := by
  refine (pmul_c false A c [0, 1] true B d [3] w ha hb (Dg.Low.cons (by decide) (one_low (by decide))) (one_low (by decide)) (by decide) (by decide)).mono ?_
  rintro e w' ⟨A, c, ng, L, k, rfl, hO, hP, hg⟩
  have h := hP.yes (by decide +kernel)
  rw [show Lg.num false [0, 1] * Lg.num true [3] = Lg.sgn true (0 + 4294967296 * 3) by decide +kernel] at h
  obtain ⟨rfl, rfl, rfl⟩ := out_is h (two_rep (by decide) (by decide) (by decide) true) (by decide)
  exact ⟨A, c, rfl, hO, hg⟩
theorem sure_t (A : Option Addr) (c : Nat) (w : World) (ha : NumsAt .u32 w w.heap.size A [0, 3]) :
    Calls Tryd.prog 17 #[.agg #[.bool true, .slice A 2 c]] w fun e w' => e = .returned (.tuple #[.string ⟨#[45, 49, 50, 56, 56, 52, 57, 48, 49, 56, 56, 56]⟩, .nilIface]) ∧ Grew w w' := by
  refine (ptext_c true A c [0, 3] w ha (Dg.Low.cons (by decide) (one_low (by decide))) (by decide)).mono ?_
  rintro e w' ⟨s, k, rfl, hT, hg⟩
  obtain ⟨rfl, D, hD, rfl⟩ := hT.yes (by decide +kernel)
  have hE : Lg.Dec [8, 8, 8, 1, 0, 9, 4, 8, 8, 2, 1] (Dg.val 4294967296 [0, 3]) := ⟨by intro x hx; simp at hx; omega, by decide +kernel, .inr ⟨by simp [Dg.Top], by simp⟩⟩
  obtain rfl := hD.inj hE
  exact ⟨rfl, hg⟩
theorem sure_d (A : Option Addr) (c : Nat) (B : Option Addr) (d : Nat) (w : World) (ha : NumsAt .u32 w w.heap.size A [7]) (hb : NumsAt .u32 w w.heap.size B [2]) :
    Calls Tryd.prog 15 #[.agg #[.bool true, .slice A 1 c], .agg #[.bool false, .slice B 1 d]] w fun e w' => ∃ A c B d, e = .returned (.tuple #[.agg #[.bool true, .slice A 1 c], .agg #[.bool false, .slice B 1 d], .nilIface]) ∧ OwnNums .u32 w w' 48 A c [4] ∧ OwnNums .u32 w w' 48 B d [1] ∧ Grew w w' := by
  refine (pdiv_c true A c [7] false B d [2] w ha hb (one_low (by decide)) (by decide) (by decide) (fun _ _ _ W hg => ?_)).mono ?_
  · have h := pdivMags_1 A c [7] B d 2 W (ha.grew hg) (hb.grew hg) (one_low (by decide)) (by decide) (by decide) (by decide) (by decide)
    rwa [← one_val 2] at h
  · rintro e w' ⟨A1, c1, n1, L1, A2, c2, n2, L2, k, rfl, h1, h2, hU, hg⟩
    obtain ⟨rfl, r1, r2⟩ := hU.yes (by decide +kernel) (by decide +kernel)
    rw [show (Lg.num true [7]).fdiv (Lg.num false [2]) = Lg.sgn true 4 by decide +kernel] at r1
    rw [show (Lg.num true [7]).fmod (Lg.num false [2]) = Lg.sgn false 1 by decide +kernel] at r2
    obtain ⟨rfl, rfl⟩ := r1.inj (one_rep (by decide) (by decide) true)
    obtain ⟨rfl, rfl⟩ := r2.inj (one_rep (by decide) (by decide) false)
    exact ⟨A1, c1, A2, c2, rfl, h1, h2, hg⟩
theorem sure_z (A : Option Addr) (c : Nat) (w : World) (ha : NumsAt .u32 w w.heap.size A [0, 1]) :
    Calls Tryd.prog 15 #[.agg #[.bool false, .slice A 2 c], .agg #[.bool false, .slice none 0 0]] w fun e w' => ∃ A1 c1 A2 c2, e = .returned (.tuple #[.agg #[.bool false, .slice A1 0 c1], .agg #[.bool false, .slice A2 0 c2], errVal 10]) ∧ Grew w w' := by
  refine (pdiv_c false A c [0, 1] false none 0 [] w ha (fun h => absurd h (by decide)) (Dg.Low.nil _) (by decide) (by decide) (fun _ _ h => absurd h (by decide))).mono ?_
  rintro e w' ⟨A1, c1, n1, L1, A2, c2, n2, L2, k, rfl, h1, h2, hU, hg⟩
  obtain ⟨rfl, ⟨rfl, rfl⟩, rfl, rfl⟩ := hU.zero (by decide +kernel) (by decide +kernel)
  exact ⟨_, _, _, _, rfl, hg⟩
theorem sure_q (A : Option Addr) (c : Nat) (w : World) (ha : NumsAt .u32 w w.heap.size A [4]) :
    Calls Tryd.prog 28 #[.agg #[.bool true, .slice A 1 c]] w fun e w' => e = .returned (.tuple #[.int .i64 (-4), .bool true]) ∧ Grew w w' := by
  have h := pint_c true A c [4] w ha (one_low (by decide)) (by decide)
  rwa [show intVal true [4] = -4 by decide +kernel, show intOk true [4] = true by decide +kernel] at h
theorem sure_r (A : Option Addr) (c : Nat) (w : World) (ha : NumsAt .u32 w w.heap.size A [1]) :
    Calls Tryd.prog 28 #[.agg #[.bool false, .slice A 1 c]] w fun e w' => e = .returned (.tuple #[.int .i64 1, .bool true]) ∧ Grew w w' := by
  have h := pint_c false A c [1] w ha (one_low (by decide)) (by decide)
  rwa [show intVal false [1] = 1 by decide +kernel, show intOk false [1] = true by decide +kernel] at h
theorem sure_is (A : Option Addr) (c : Nat) (B : Option Addr) (d : Nat) (w : World) (ha : NumsAt .u32 w w.heap.size A [0, 1]) (hb : NumsAt .u32 w w.heap.size B [0, 1]) :
    Calls Tryd.prog 29 #[.agg #[.bool false, .slice A 2 c], .agg #[.bool false, .slice B 2 d]] w fun e w' => e = .returned (.bool true) ∧ Grew w w' := by
  have h := isNum_c false A c [0, 1] false B d [0, 1] w ha hb (by decide)
  rwa [show decide (false = false ∧ [0, 1] = [0, 1]) = true by decide] at h

theorem cell_alloc_far {W : World} {o : Obj} {q : Addr} (h : q.block < W.heap.size) : (W.alloc o).cell? q = W.cell? q := World.cell?_alloc_lt _ _ _ h
theorem two_new {w0 w : World} (hg : Grew w0 w) : NumsAt .u32 (w.alloc (.cells #[.int .u32 0, .int .u32 1] 48)) (w.alloc (.cells #[.int .u32 0, .int .u32 1] 48)).heap.size (some ⟨w.heap.size, 0, none⟩) [0, 1] := by
  have h := (OwnNums.new .u32 48 [0, 1] hg (by decide)).at
  rw [numCells2] at h
  exact h
/-- A number in a box, its words the call's own. -/
structure BoxAt (w0 wx : World) (g : Nat) (ng : Bool) (A : Option Addr) (c : Nat) (xs : List Nat) : Prop where
  grew : Grew w0 wx
  lt : g < wx.heap.size
  c0 : wx.cell? ⟨g, 0, none⟩ = some (.bool ng)
  c1 : wx.cell? ⟨g, 1, none⟩ = some (.slice A xs.length c)
  own : OwnNums .u32 w0 wx 48 A c xs
theorem BoxAt.mk' {w0 w : World} (hg : Grew w0 w) (ng : Bool) {A : Option Addr} {c : Nat} {xs : List Nat} (ho : OwnNums .u32 w0 w 48 A c xs) : BoxAt w0 (w.alloc (.cells #[.bool ng, .slice A xs.length c] 26)) w.heap.size ng A c xs :=
  ⟨hg.alloc _, by simp, by simp, by simp, ho.alloc _⟩
theorem BoxAt.on {w0 w w' : World} {g : Nat} {ng : Bool} {A : Option Addr} {c : Nat} {xs : List Nat} (h : BoxAt w0 w g ng A c xs) (hg : Grew w w') : BoxAt w0 w' g ng A c xs := by
  obtain ⟨y, rfl⟩ := hg
  exact ⟨h.grew.trans y.grew, Nat.lt_of_lt_of_le h.lt y.b.size, (y.cell _ h.lt).trans h.c0, (y.cell _ h.lt).trans h.c1, h.own.grew y.grew⟩
theorem BoxAt.put {w0 X w1 : World} (h0 : Grew w0 X) (hX : Grew X w1) {g : Nat} {u v : Value} (hge : w0.heap.size ≤ g) (hlt : g < X.heap.size) (e0 : X.cell? ⟨g, 0, none⟩ = some u) (e1 : X.cell? ⟨g, 1, none⟩ = some v) {A : Option Addr} {c : Nat} {xs : List Nat} (ho : OwnNums .u32 X w1 48 A c xs) (ng : Bool) :
    BoxAt w0 ((w1.setCell ⟨g, 0, none⟩ (.bool ng)).setCell ⟨g, 1, none⟩ (.slice A xs.length c)) g ng A c xs := by
  have hf : ∀ q, A = some ⟨q, 0, none⟩ → q ≠ g := fun q hA => by
    have := (World.ownsRow.lt ho) q (by rw [hA]; rfl)
    omega
  have f0 := (hX.below.cell (p := ⟨g, 0, none⟩) hlt).trans e0
  have f1 := (hX.below.cell (p := ⟨g, 1, none⟩) hlt).trans e1
  obtain ⟨y, rfl⟩ := hX
  refine ⟨((h0.trans y.grew).setCell hge _).setCell hge _, by have := y.b.size; simp; omega, ?_, ?_, ((ho.mono h0).far (fun q hA => hf q hA) _).far (fun q hA => hf q hA) _⟩
  · rw [World.cell?_setCell_other _ _ _ _ (by simp)]
    exact World.cell?_setCell_same' _ _ _ (by rw [f0]; rfl)
  · exact World.cell?_setCell_same' _ _ _ (by rw [World.cell?_setCell_other _ _ _ _ (by simp), f1]; rfl)
set_option maxRecDepth 100000 in
set_option maxHeartbeats 4000000 in
theorem sure_c (w : World) (hg : HandleAt w) : Calls Tryd.prog 7 #[] w fun e w' => e = .returned (.bool true) ∧ Grew w w' := by
  have Hg := hid hg
  clear hg
  go_enter Tryd.func7, Tryd.ntmps7
  go_wp2_with fail
  refine (sure_a _).mono ?_
  rintro e w1 ⟨A, c, rfl, hA, y1, rfl⟩
  have BA := hid (BoxAt.mk' y1.grew false hA)
  clear hA
  go_wp2_with fail
  obtain ⟨g, hg⟩ : ∃ g, g = y1.w.heap.size := ⟨_, rfl⟩
  obtain ⟨wa, hwa⟩ : ∃ wa, wa = y1.w.alloc (.cells #[.bool false, .slice A 2 c] 26) := ⟨_, rfl⟩
  replace BA := hid (show BoxAt w wa g false A c [0, 1] by rw [hwa, hg]; exact BA.out)
  rw [← hwa, ← hg]
  clear hwa hg
  go_cut [3, 4] (fun s3 s4 wx => ∃ (gb : Nat) (A3 : Option Addr) (c3 : Nat), s3 = .pointer (some ⟨gb, 0, none⟩) ∧ s4 = .nilIface ∧ Hid (BoxAt w wx gb true A3 c3 [0, 3]) ∧ Hid (Grew wa wx))
  case first =>
    have hlt := BA.out.lt
    have hlt1 : g < wa.heap.size + 1 := Nat.lt_succ_of_lt hlt
    have a0 := BA.out.c0
    have a1 : wa.cell? ⟨g, 1, none⟩ = some (.slice A 2 c) := BA.out.c1
    go_region_held3 (fun w' => w'.cell? ⟨g, 0, none⟩ = some (.bool false) ∧ w'.cell? ⟨g, 1, none⟩ = some (.slice A 2 c))
      (first
        | exact ⟨(BA.out.on k3).c0, (BA.out.on k3).c1⟩
        | exact ⟨(BA.out.on (k3.alloc _)).c0, (BA.out.on (k3.alloc _)).c1⟩
        | exact ⟨(BA.out.on ((k3.setCell (Nat.le_refl _) _).setCell (Nat.le_refl _) _)).c0, (BA.out.on ((k3.setCell (Nat.le_refl _) _).setCell (Nat.le_refl _) _)).c1⟩
        | exact ⟨(BA.out.on ((k3.setCell k2.below.size _).setCell k2.below.size _)).c0, (BA.out.on ((k3.setCell k2.below.size _).setCell k2.below.size _)).c1⟩
        | exact ⟨(BA.out.on k2).c0, (BA.out.on k2).c1⟩
        | exact ⟨(BA.out.on (k2.alloc _)).c0, (BA.out.on (k2.alloc _)).c1⟩
        | go_keep)
      (first
        | (go_at_call 27; ((with_reducible refine (sure_m3 _).mono ?_); rintro e w2 ⟨A2, c2, rfl, h2, hg2⟩; have k2 : Grew wa w2 := (by first | exact (Grew.refl _).drew.trans hg2 | exact ((Grew.refl _).drew.alloc _).trans hg2 | exact ((Grew.refl _).alloc _).drew.trans hg2); obtain ⟨y2, rfl⟩ := hg2))
        | (go_at_call 12; ((with_reducible refine (sure_b A c A2 c2 _ (by first | exact (BA.out.own.grew k2).at | exact ((BA.out.own.grew k2).alloc _).at) (by first | exact h2.at | exact (h2.alloc _).at)).mono ?_); rintro e w3 ⟨A3, c3, rfl, h3, hg3⟩; have k3 : Grew wa w3 := (by first | exact k2.trans hg3 | exact (k2.alloc _).trans hg3); obtain ⟨y3, rfl⟩ := hg3)))
    all_goals
      have GA := BA.out.grew
      go_wp2_with fail
      go_meet
      case rel =>
        first
          | exact ⟨_, _, _, rfl, rfl, hid (BoxAt.mk' (GA.trans k3) true (h3.mono (GA.trans k2))), hid (k3.alloc _)⟩
          | exact ⟨_, _, _, rfl, rfl, hid (BoxAt.put (u := .bool false) (v := .slice none 0 0) ((GA.trans k2).alloc _) y3.grew (GA.trans k2).below.size (by simp) (by simp) (by simp) h3 true), hid ((k3.setCell k2.below.size _).setCell k2.below.size _)⟩
          | exact ⟨_, _, _, rfl, rfl, hid (BoxAt.put (u := .bool false) (v := .slice none 0 0) (GA.trans k2) y3.grew GA.below.size (y2.lt _ (by simp)) ((y2.cell _ (by simp)).trans (by simp)) ((y2.cell _ (by simp)).trans (by simp)) h3 true), hid ((k3.setCell (Nat.le_refl _) _).setCell (Nat.le_refl _) _)⟩
  case rest =>
    obtain ⟨gb, A3, c3, rfl, rfl, BB, GB⟩ := hcut
    replace BA := hid (BA.out.on GB.out)
    have b0 := BB.out.c0
    have b1 : wc.cell? ⟨gb, 1, none⟩ = some (.slice A3 2 c3) := BB.out.c1
    go_wp2_with fail
    refine (sure_t A3 c3 _ BB.out.own.at).mono ?_
    rintro e w4 ⟨rfl, hg4⟩
    replace BA := hid (BA.out.on hg4)
    clear BB GB b0 b1 hg4
    go_wp2_with fail
    refine (sure_m7 _).mono ?_
    rintro e w5 ⟨A5, c5, rfl, h5, hg5⟩
    have H5 := hid h5
    have G5 := hid hg5
    clear h5 hg5
    go_wp2_with fail
    refine (sure_2 _).mono ?_
    rintro e w6 ⟨A6, c6, rfl, h6, hg6⟩
    have H6 := hid h6
    replace H5 := hid (H5.out.grew hg6)
    replace BA := hid (BA.out.on (G5.out.trans hg6))
    clear h6 hg6 G5
    go_wp2_with fail
    refine (sure_d A5 c5 A6 c6 _ H5.out.at H6.out.at).mono ?_
    rintro e w7 ⟨A7, c7, B7, d7, rfl, h7, k7, hg7⟩
    have H7 := hid (OwnNums.mono h7 BA.out.grew)
    have K7 := hid (OwnNums.mono k7 BA.out.grew)
    replace BA := hid (BA.out.on hg7)
    clear h7 k7 hg7 H5 H6
    have a0 := BA.out.c0
    have a1 : w7.cell? ⟨g, 1, none⟩ = some (.slice A 2 c) := BA.out.c1
    have hlt := BA.out.lt
    go_wp2_with fail
    have BQ := hid ((BoxAt.mk' BA.out.grew true H7.out).on ((Grew.refl _).alloc (.cells #[.bool false, .slice B7 1 d7] 26)))
    have BR := BoxAt.mk' (BA.out.grew.alloc (.cells #[.bool true, .slice A7 1 c7] 26)) false (K7.out.alloc (.cells #[.bool true, .slice A7 1 c7] 26))
    rw [World.size_alloc] at BR
    replace BR := hid BR
    replace BA := hid (BA.out.on (((Grew.refl _).alloc (.cells #[.bool true, .slice A7 1 c7] 26)).alloc (.cells #[.bool false, .slice B7 1 d7] 26)))
    generalize w7.heap.size + 1 = gr at *
    generalize w7.heap.size = gq at *
    obtain ⟨w8, hw8⟩ : ∃ w8, w8 = (w7.alloc (.cells #[.bool true, .slice A7 1 c7] 26)).alloc (.cells #[.bool false, .slice B7 1 d7] 26) := ⟨_, rfl⟩
    replace BQ := hid (show BoxAt w w8 gq true A7 c7 [4] by rw [hw8]; exact BQ.out)
    replace BR := hid (show BoxAt w w8 gr false B7 d7 [1] by rw [hw8]; exact BR.out)
    replace BA := hid (show BoxAt w w8 g false A c [0, 1] by rw [hw8]; exact BA.out)
    rw [← hw8]
    clear hw8 a0 a1 hlt H7 K7
    refine (sure_z A c _ BA.out.own.at).mono ?_
    rintro e w9 ⟨A9, c9, B9, d9, rfl, hg9⟩
    replace BA := hid (BA.out.on hg9)
    replace BQ := hid (BQ.out.on hg9)
    replace BR := hid (BR.out.on hg9)
    clear hg9
    have q0 := BQ.out.c0
    have q1 : w9.cell? ⟨gq, 1, none⟩ = some (.slice A7 1 c7) := BQ.out.c1
    have ql := BQ.out.lt
    go_wp2_with fail
    obtain ⟨w10, hw10⟩ : ∃ w10, w10 = (w9.alloc (.cells #[.bool false, .slice A9 0 c9] 26)).alloc (.cells #[.bool false, .slice B9 0 d9] 26) := ⟨_, rfl⟩
    have G10 := hid (show Grew w9 w10 by rw [hw10]; exact ((Grew.refl _).alloc _).alloc _)
    rw [← hw10]
    clear hw10 q0 q1 ql
    replace BA := hid (BA.out.on G10.out)
    replace BQ := hid (BQ.out.on G10.out)
    replace BR := hid (BR.out.on G10.out)
    refine (sure_q A7 c7 _ BQ.out.own.at).mono ?_
    rintro e w11 ⟨rfl, hg11⟩
    replace BA := hid (BA.out.on hg11)
    replace BR := hid (BR.out.on hg11)
    clear hg11 G10 BQ
    have q0 := BR.out.c0
    have q1 : w11.cell? ⟨gr, 1, none⟩ = some (.slice B7 1 d7) := BR.out.c1
    go_wp2_with fail
    refine (sure_r B7 d7 _ BR.out.own.at).mono ?_
    rintro e w12 ⟨rfl, hg12⟩
    replace BA := hid (BA.out.on hg12)
    clear hg12 BR q0 q1
    go_wp2_with fail
    refine (sure_j _).mono ?_
    rintro e w13 ⟨A13, c13, rfl, hg13⟩
    replace BA := hid (BA.out.on hg13)
    clear hg13
    have a0 := BA.out.c0
    have a1 : w13.cell? ⟨g, 1, none⟩ = some (.slice A 2 c) := BA.out.c1
    have hlt := BA.out.lt
    go_wp2_with fail
    have hB := two_new (BA.out.grew.alloc (.cells #[.bool false, .slice A13 0 c13] 26))
    rw [World.size_alloc w13] at hB
    have HGf := hid (show Grew w ((w13.alloc (.cells #[.bool false, .slice A13 0 c13] 26)).alloc (.cells #[.int .u32 0, .int .u32 1] 48)) from (BA.out.grew.alloc _).alloc _)
    have HAf := hid ((BA.out.own.alloc (.cells #[.bool false, .slice A13 0 c13] 26)).alloc (.cells #[.int .u32 0, .int .u32 1] 48)).at
    refine (sure_is A c _ 2 _ HAf.out hB).mono ?_
    rintro e w14 ⟨rfl, hg14⟩
    have G14 := hid (HGf.out.trans hg14)
    clear hB HAf HGf hg14 a0 a1 hlt BA
    go_wp2_with fail
    refine (num_c 10 _ (Hg.out.grew G14.out)).mono ?_
    rintro e w15 ⟨rfl, hg15⟩
    have G15 := hid (G14.out.trans hg15)
    clear G14 hg15
    go_wp2_with fail
    refine (num_c 2 _ (Hg.out.grew G15.out)).mono ?_
    rintro e w16 ⟨rfl, hg16⟩
    have G16 := hid (G15.out.trans hg16)
    clear G15 hg16
    go_wp2_with fail
    go_ret
    exact ⟨rfl, G16.out⟩
end Go.Proofs.YtmcfciifjgdgoaaDoor

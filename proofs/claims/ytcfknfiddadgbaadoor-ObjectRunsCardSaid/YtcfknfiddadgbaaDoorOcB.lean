/- Stage 11: objects looked at by New. -/
import Derived.Test.YtcfknfiddadgbaaDoorOcA
import Derived.Lib.SliceRun
namespace Go.Proofs.YtcfknfiddadgbaaDoor
open Go.RowKit

set_option maxHeartbeats 1000000 in
theorem idxObj_c (g : Nat) (lb : Array Value) (eg : ∀ args w, (callFunc g args).run Tryd.prog w = .ok (.enter g args) w) (p : OV → Bool) (A : Option Addr) (c : Nat) (l : List OV) (w : World) (h : ObjsAt w A l) (hl : l.length ≤ 1000000)
    (hp : ∀ x ∈ l, ∀ W, Grew w W → Calls Tryd.prog g (#[.agg #[.int .i64 x.o.cls, .int .i64 x.o.lev, .slice x.A x.o.f.length x.c, .string x.o.b]] ++ lb) W fun e w' => e = .returned (.bool (p x)) ∧ Grew W w') :
    Calls Tryd.prog 52 #[.slice A l.length c, .func (.func g) #[] lb] w fun e w' => (∃ r : Int, e = .returned (.int .i64 r) ∧ (0 ≤ r ↔ l.any p = true)) ∧ Grew w w' := by
  obtain ⟨n, en⟩ : ∃ n, n = l.length := ⟨_, rfl⟩
  have HA := hid h
  have HP := hid hp
  rw [← en] at hl ⊢
  have EN := hid en
  clear h hp en
  go_enter Tryd.func52, Tryd.ntmps52
  go_wp2_with fail
  go_loopw [5, 8] (fun _ s8 wr => ∃ i : Nat, s8 = .int .i64 ((i : Nat) : Int) ∧ i ≤ n ∧ Grew w wr ∧ Hid ((l.take i).any p = false)) (fun _ s8 _ => n - (intOf s8).toNat)
  case atStart => exact ⟨0, rfl, Nat.zero_le _, Grew.refl _, hid (by simp)⟩
  case round =>
    obtain ⟨i, rfl, hi, hg, HI⟩ := hrel
    have HG := hid hg
    clear hg
    by_cases hlt : i < n
    · have f1 : (i : Int) < n := by omega
      obtain ⟨ad, x, rfl, hx, q0, q1, q2, q3, hb, _⟩ := ov_get HA.out HG.out (i := i) (by rw [← EN.out]; exact hlt)
      have HT : Hid ((l.take (i + 1)).any p = p x) := hid (by
        rw [List.take_add_one, hx, List.any_append, HI.out]
        simp)
      have HX : Hid (p x = true → l.any p = true) := hid (fun hf => List.any_eq_true.2 ⟨x, List.mem_of_getElem? hx, hf⟩)
      have hcall := HP.out x (List.mem_of_getElem? hx) wr HG.out
      generalize p x = b at hcall HT HX
      clear hx
      obtain ⟨⟨cls, lev, f, bt⟩, fA, fc⟩ := x
      simp only at q0 q1 q2 q3 hcall
      generalize f.length = m at *
      cases b
      · go_wp2_with (go_at_fn g; refine hcall.mono ?_; rintro e w2 ⟨rfl, hg2⟩)
        go_round
        case rel => exact ⟨i + 1, by go_num, by omega, HG.out.trans hg2, HT⟩
        case measure => simp [intOf]; omega
      · go_wp2_with (go_at_fn g; refine hcall.mono ?_; rintro e w2 ⟨rfl, hg2⟩)
        go_ret
        exact ⟨⟨_, rfl, by rw [HX.out (by trivial)]; simp⟩, HG.out.trans hg2⟩
    · have hin : i = n := by omega
      subst hin
      go_wp2_with fail
      go_ret
      refine ⟨⟨_, rfl, ?_⟩, HG.out⟩
      have := HI.out
      rw [EN.out, List.take_length] at this
      rw [this]
      simp
theorem anyObj_c (g : Nat) (lb : Array Value) (eg : ∀ args w, (callFunc g args).run Tryd.prog w = .ok (.enter g args) w) (p : OV → Bool) (A : Option Addr) (c : Nat) (l : List OV) (w : World) (h : ObjsAt w A l) (hl : l.length ≤ 1000000)
    (hp : ∀ x ∈ l, ∀ W, Grew w W → Calls Tryd.prog g (#[.agg #[.int .i64 x.o.cls, .int .i64 x.o.lev, .slice x.A x.o.f.length x.c, .string x.o.b]] ++ lb) W fun e w' => e = .returned (.bool (p x)) ∧ Grew W w') :
    Calls Tryd.prog 36 #[.slice A l.length c, .func (.func g) #[] lb] w fun e w' => e = .returned (.bool (l.any p)) ∧ Grew w w' := by
  have HI := hid (idxObj_c g lb eg p A c l w h hl hp)
  clear h hp hl eg
  generalize l.any p = b at *
  generalize l.length = n at *
  go_enter Tryd.func36, Tryd.ntmps36
  go_wp2_with fail
  refine HI.out.mono ?_
  rintro e w1 ⟨⟨r, rfl, hr⟩, hg⟩
  have HD := hid (show decide ((0 : Int) ≤ r) = b by rw [Bool.eq_iff_iff, decide_eq_true_iff]; exact hr)
  clear hr
  go_wp2_with fail
  go_ret
  exact ⟨congrArg (fun z => Ending.returned (.bool z)) HD.out, hg⟩
/-- Levels in a box. -/
theorem new1_c (U : Option Addr) (un cu : Nat) (v : OV) (gb : Nat) (w : World) (h : Blk w gb 46 #[.slice U un cu]) (hv : OvOk w v) : Calls Tryd.prog 35 #[.agg #[.int .i64 v.o.cls, .int .i64 v.o.lev, .slice v.A v.o.f.length v.c, .string v.o.b], .pointer (some ⟨gb, 0, none⟩)] w fun e w' => e = .returned (.bool (!Ob.mayB un v.o)) ∧ Grew w w' := by
  have HV := hid (fun W (hW : Grew w W) => may_c un v W (hv.grew hW))
  clear hv
  generalize Ob.mayB un v.o = b at *
  obtain ⟨⟨cls, lev, f, bt⟩, A0, c0⟩ := v
  simp only at HV ⊢
  generalize f.length = m at *
  have G1 := (Grew.refl w).alloc (.cells #[.int .i64 cls, .int .i64 lev, .slice A0 m c0, .string bt] 28)
  have h1 := h.grew G1
  have q0 := h1.cell 0
  have ql := h1.lt
  have B1 := Blk.new w 28 #[.int .i64 cls, .int .i64 lev, .slice A0 m c0, .string bt]
  have p0 := B1.cell 0
  have p1 := B1.cell 1
  have p2 := B1.cell 2
  have p3 := B1.cell 3
  have pl := B1.lt
  simp only [List.getElem?_toArray, List.getElem?_cons_zero, List.getElem?_cons_succ] at q0 p0 p1 p2 p3
  have HG := hid G1
  clear h h1 B1 G1
  go_enter Tryd.func35, Tryd.ntmps35
  go_upto_region 1 with fail
  generalize w.alloc (.cells #[.int .i64 cls, .int .i64 lev, .slice A0 m c0, .string bt] 28) = w1 at *
  generalize w.heap.size = g at *
  go_wp2_with (go_at_call 17; refine (HV.out _ HG.out).mono ?_; rintro e w2 ⟨rfl, hg2⟩)
  go_ret
  exact ⟨rfl, HG.out.trans hg2⟩
set_option maxRecDepth 100000 in
theorem clone_c (ad : Addr) (c : Nat) (up : List Nat) (w : World) (hn : up.length ≤ 20) (h : BytesAt w w.heap.size (some ad) up) :
    Calls Tryd.prog 37 #[.slice (some ad) up.length c] w fun e w' => ∃ A' c', e = .returned (.slice A' up.length c') ∧ BytesAt w' w'.heap.size A' up ∧ Grew w w' := by
  have q22 : ∀ (w : World) (a : Option Addr) (n c n' c' : Nat), (binOp .eql 22 (.slice a n c) (.slice none n' c')).run Tryd.prog w = .ok (.bool a.isNone) w := fun w a n c n' c' => Lib.run_eql_slice_nil w _ _ a n c n' c' Tryd.underlying22
  have h1 := hid h
  have hn' : (up.length : Int) ≤ 20 := by omega
  clear h
  go_enter Tryd.func37, Tryd.ntmps37
  go_wp2_with (at_builtin; refine wpList_copy_bytes w rfl _ _ 22 5 rfl Tryd.underlying22 (by kernel_rfl) (some ad) c up _ rfl (by rfl) (by rfl) h1.out (by omega) ?_; rintro A' c' W1 hA hW1; have HA := hid hA; have HW1 := hid hW1; clear hA hW1)
  go_ret
  exact ⟨A', c', rfl, HA.out, HW1.out⟩
/-- A new Store without objects. -/
def newS (g : Nat) (U : Option Addr) (cu : Nat) (up : List Nat) : SV := ⟨g, U, cu, none, 0, up, []⟩
theorem new_at {w : World} {B : Nat} {U : Option Addr} {cu : Nat} {up : List Nat} (hB : B ≤ w.heap.size) (h : BytesAt w w.heap.size U up) (hv : La.valid up = true) : StoreAt (w.alloc (.cells #[.slice U up.length cu, .slice none 0 0, .int .i64 0, .int .i64 0, .int .i64 0, .int .i64 0, .int .i64 0, .int .i64 0, .int .i64 0, .int .i64 0] 75)) B (newS w.heap.size U cu up) := by
  have hb := Blk.new w 75 #[.slice U up.length cu, .slice none 0 0, .int .i64 0, .int .i64 0, .int .i64 0, .int .i64 0, .int .i64 0, .int .i64 0, .int .i64 0, .int .i64 0]
  refine ⟨hb, hB, h.grew ((Grew.refl w).alloc _), ?_, hv, Row.nil _ _ _ _, ?_, ?_, ?_, ?_, ?_, by simp [newS]⟩
  · intro ad e hk
    obtain ⟨ad', h1, h2, _⟩ := h.2 (La.valid_spec hv).1
    have e' : U = some ad := e
    rw [e'] at h1
    cases h1
    rcases hk with h3 | ⟨a, h3, _⟩ | ⟨x, h3, _⟩
    · have h4 : ad.block = w.heap.size := h3
      omega
    · cases h3
    · cases h3
  · rintro ⟨a, h3, _⟩
    cases h3
  · intro x hx; cases hx
  · intro i j x y hx; simp [newS] at hx
  · intro i x hx; simp [newS] at hx
  · intro x hx; cases hx
end Go.Proofs.YtcfknfiddadgbaaDoor

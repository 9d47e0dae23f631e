/- Stage 10: slices.IndexFunc and ContainsFunc at numbers, classes and strings; Index and Contains at numbers. -/
import Derived.Test.YtjladeiecokpfaaGreatDoorCsB
namespace Go.Proofs.YtjladeiecokpfaaGreatDoor
open Go.RowKit

def optI : Option Nat → Int
  | none => -1
  | some i => (i : Int)
theorem optI_ge (r : Option Nat) : decide ((0 : Int) ≤ optI r) = r.isSome := by
  cases r with
  | none => rfl
  | some i => exact decide_eq_true (by show (0 : Int) ≤ (i : Int); omega)
theorem find_some10 {α : Type} {p : α → Bool} {l : List α} {i : Nat} {x : α} (h : (l.take i).any p = false) (hx : l[i]? = some x) (hp : p x = true) : l.findIdx? p = some i := by
  obtain ⟨hi, rfl⟩ := List.getElem?_eq_some_iff.1 hx
  rw [List.findIdx?_eq_some_iff_getElem]
  refine ⟨hi, hp, fun j hj hc => ?_⟩
  have := List.any_eq_false.1 h l[j] (List.mem_iff_getElem.2 ⟨j, by rw [List.length_take]; omega, by simp⟩)
  exact this hc
theorem find_none10 {α : Type} {p : α → Bool} {l : List α} (h : l.any p = false) : l.findIdx? p = none := by
  rw [List.findIdx?_eq_none_iff]
  intro x hx
  have := List.any_eq_false.1 h x hx
  simpa using this
theorem some_any10 {α : Type} {p : α → Bool} {l : List α} : (l.findIdx? p).isSome = l.any p := by
  rw [Bool.eq_iff_iff, List.any_eq_true]
  simp
theorem int_at {w wr : World} {A : Option Addr} {l : List Int} (h : IntsAt w w.heap.size A l) (hg : Grew w wr) {i : Nat} (hi : i < l.length) : ∃ ad x, A = some ad ∧ l[i]? = some x ∧ wr.cell? (ad.add i) = some (.int .i64 x) ∧ ad.block < wr.heap.size := by
  obtain ⟨ad, e, hb, hc⟩ := h.2 (by omega)
  have hx : l[i]? = some (l.getD i 0) := by rw [List.getD_eq_getElem?_getD, List.getElem?_eq_getElem hi]; rfl
  exact ⟨ad, _, e, hx, (hg.below.cell (by rw [block_add]; exact hb)).trans (hc i hi), Nat.lt_of_lt_of_le hb hg.below.size⟩
theorem str_at {w wr : World} {A : Option Addr} {l : List ByteArray} (h : StrsAt w w.heap.size A l) (hg : Grew w wr) {i : Nat} (hi : i < l.length) : ∃ ad x, A = some ad ∧ l[i]? = some x ∧ wr.cell? (ad.add i) = some (.string x) ∧ ad.block < wr.heap.size := by
  obtain ⟨ad, e, hb, hc⟩ := h (by omega)
  have hx := List.getElem?_eq_getElem hi
  exact ⟨ad, _, e, hx, (hg.below.cell (by rw [block_add]; exact hb)).trans (hc i _ hx), Nat.lt_of_lt_of_le hb hg.below.size⟩
/-- What 'IndexFunc' answers. -/
def IdxPost (w : World) (r : Option Nat) (e : Ending) (w' : World) : Prop := e = .returned (.int .i64 (optI r)) ∧ Grew w w'
set_option maxRecDepth 100000 in
set_option maxHeartbeats 2000000 in
theorem idxInt_c (g : Nat) (lb : Array Value) (eg : ∀ args w, (callFunc g args).run Tryz.prog w = .ok (.enter g args) w) (p : Int → Bool) (A : Option Addr) (c : Nat) (l : List Int) (w : World) (h : IntsAt w w.heap.size A l) (hl : l.length ≤ 1000000)
    (hp : ∀ x ∈ l, ∀ W, Grew w W → Calls Tryz.prog g (#[.int .i64 x] ++ lb) W fun e w' => e = .returned (.bool (p x)) ∧ Grew W w') :
    Calls Tryz.prog 36 #[.slice A l.length c, .func (.func g) #[] lb] w (IdxPost w (l.findIdx? p)) := by
  obtain ⟨n, en⟩ : ∃ n, n = l.length := ⟨_, rfl⟩
  have HA := hid h
  have HP := hid hp
  rw [← en] at hl ⊢
  have EN := hid en
  clear h hp en
  obtain ⟨R, hR⟩ : ∃ R, R = l.findIdx? p := ⟨_, rfl⟩
  rw [← hR]
  have HR := hid hR
  clear hR
  go_enter Tryz.func36, Tryz.ntmps36
  go_wp2_with fail
  go_loopw [5, 8] (fun _ s8 wr => ∃ i : Nat, s8 = .int .i64 ((i : Nat) : Int) ∧ i ≤ n ∧ Grew w wr ∧ Hid ((l.take i).any p = false)) (fun _ s8 _ => n - (intOf s8).toNat)
  case atStart => exact ⟨0, rfl, Nat.zero_le _, Grew.refl _, hid (by simp)⟩
  case round =>
    obtain ⟨i, rfl, hi, hg, HI⟩ := hrel
    have HG := hid hg
    clear hg
    by_cases hlt : i < n
    · have f1 : (i : Int) < n := by omega
      obtain ⟨ad, x, rfl, hx, q0, hb⟩ := int_at HA.out HG.out (i := i) (by rw [← EN.out]; exact hlt)
      have HT : Hid ((l.take (i + 1)).any p = p x) := hid (by
        rw [List.take_add_one, hx, List.any_append, HI.out]
        simp)
      have HX : Hid (p x = true → R = some i) := hid (fun hf => by rw [HR.out]; exact find_some10 HI.out hx hf)
      have hcall := HP.out x (List.mem_of_getElem? hx) wr HG.out
      generalize p x = b at hcall HT HX
      clear hx
      cases b
      · go_wp2_with (go_at_fn g; refine hcall.mono ?_; rintro e w2 ⟨rfl, hg2⟩)
        go_round
        case rel => exact ⟨i + 1, by go_num, by omega, HG.out.trans hg2, HT⟩
        case measure => simp [intOf]; omega
      · go_wp2_with (go_at_fn g; refine hcall.mono ?_; rintro e w2 ⟨rfl, hg2⟩)
        go_ret
        exact ⟨by rw [HX.out (by trivial)]; rfl, HG.out.trans hg2⟩
    · have hin : i = n := by omega
      subst hin
      go_wp2_with fail
      go_ret
      refine ⟨?_, HG.out⟩
      have := HI.out
      rw [EN.out, List.take_length] at this
      rw [HR.out, find_none10 this]
      rfl
set_option maxRecDepth 100000 in
set_option maxHeartbeats 2000000 in
theorem idxStr_c (g : Nat) (lb : Array Value) (eg : ∀ args w, (callFunc g args).run Tryz.prog w = .ok (.enter g args) w) (p : ByteArray → Bool) (A : Option Addr) (c : Nat) (l : List ByteArray) (w : World) (h : StrsAt w w.heap.size A l) (hl : l.length ≤ 1000000)
    (hp : ∀ x ∈ l, ∀ W, Grew w W → Calls Tryz.prog g (#[.string x] ++ lb) W fun e w' => e = .returned (.bool (p x)) ∧ Grew W w') :
    Calls Tryz.prog 94 #[.slice A l.length c, .func (.func g) #[] lb] w (IdxPost w (l.findIdx? p)) := by
  obtain ⟨n, en⟩ : ∃ n, n = l.length := ⟨_, rfl⟩
  have HA := hid h
  have HP := hid hp
  rw [← en] at hl ⊢
  have EN := hid en
  clear h hp en
  obtain ⟨R, hR⟩ : ∃ R, R = l.findIdx? p := ⟨_, rfl⟩
  rw [← hR]
  have HR := hid hR
  clear hR
  go_enter Tryz.func94, Tryz.ntmps94
  go_wp2_with fail
  go_loopw [5, 8] (fun _ s8 wr => ∃ i : Nat, s8 = .int .i64 ((i : Nat) : Int) ∧ i ≤ n ∧ Grew w wr ∧ Hid ((l.take i).any p = false)) (fun _ s8 _ => n - (intOf s8).toNat)
  case atStart => exact ⟨0, rfl, Nat.zero_le _, Grew.refl _, hid (by simp)⟩
  case round =>
    obtain ⟨i, rfl, hi, hg, HI⟩ := hrel
    have HG := hid hg
    clear hg
    by_cases hlt : i < n
    · have f1 : (i : Int) < n := by omega
      obtain ⟨ad, x, rfl, hx, q0, hb⟩ := str_at HA.out HG.out (i := i) (by rw [← EN.out]; exact hlt)
      have HT : Hid ((l.take (i + 1)).any p = p x) := hid (by
        rw [List.take_add_one, hx, List.any_append, HI.out]
        simp)
      have HX : Hid (p x = true → R = some i) := hid (fun hf => by rw [HR.out]; exact find_some10 HI.out hx hf)
      have hcall := HP.out x (List.mem_of_getElem? hx) wr HG.out
      generalize p x = b at hcall HT HX
      clear hx
      cases b
      · go_wp2_with (go_at_fn g; refine hcall.mono ?_; rintro e w2 ⟨rfl, hg2⟩)
        go_round
        case rel => exact ⟨i + 1, by go_num, by omega, HG.out.trans hg2, HT⟩
        case measure => simp [intOf]; omega
      · go_wp2_with (go_at_fn g; refine hcall.mono ?_; rintro e w2 ⟨rfl, hg2⟩)
        go_ret
        exact ⟨by rw [HX.out (by trivial)]; rfl, HG.out.trans hg2⟩
    · have hin : i = n := by omega
      subst hin
      go_wp2_with fail
      go_ret
      refine ⟨?_, HG.out⟩
      have := HI.out
      rw [EN.out, List.take_length] at this
      rw [HR.out, find_none10 this]
      rfl
set_option maxRecDepth 100000 in
set_option maxHeartbeats 2000000 in
theorem idxCls_c (g : Nat) (lb : Array Value) (eg : ∀ args w, (callFunc g args).run Tryz.prog w = .ok (.enter g args) w) (p : CV → Bool) (A : Option Addr) (c : Nat) (l : List CV) (w : World) (h : ClsArg w A l) (hl : l.length ≤ 1000000)
    (hp : ∀ x ∈ l, ∀ W, Grew w W → Calls Tryz.prog g (#[.agg (cvCells x)] ++ lb) W fun e w' => e = .returned (.bool (p x)) ∧ Grew W w') :
    Calls Tryz.prog 60 #[.slice A l.length c, .func (.func g) #[] lb] w (IdxPost w (l.findIdx? p)) := by
  obtain ⟨n, en⟩ : ∃ n, n = l.length := ⟨_, rfl⟩
  have HA := hid h
  have HP := hid hp
  rw [← en] at hl ⊢
  have EN := hid en
  clear h hp en
  obtain ⟨R, hR⟩ : ∃ R, R = l.findIdx? p := ⟨_, rfl⟩
  rw [← hR]
  have HR := hid hR
  clear hR
  go_enter Tryz.func60, Tryz.ntmps60
  go_wp2_with fail
  go_loopw [5, 8] (fun _ s8 wr => ∃ i : Nat, s8 = .int .i64 ((i : Nat) : Int) ∧ i ≤ n ∧ Grew w wr ∧ Hid ((l.take i).any p = false)) (fun _ s8 _ => n - (intOf s8).toNat)
  case atStart => exact ⟨0, rfl, Nat.zero_le _, Grew.refl _, hid (by simp)⟩
  case round =>
    obtain ⟨i, rfl, hi, hg, HI⟩ := hrel
    have HG := hid hg
    clear hg
    by_cases hlt : i < n
    · have f1 : (i : Int) < n := by omega
      obtain ⟨ad, x, rfl, hx, q0, q1, q2, q3, hb, -⟩ := cv_arg HA.out HG.out (i := i) (by rw [← EN.out]; exact hlt)
      have HT : Hid ((l.take (i + 1)).any p = p x) := hid (by
        rw [List.take_add_one, hx, List.any_append, HI.out]
        simp)
      have HX : Hid (p x = true → R = some i) := hid (fun hf => by rw [HR.out]; exact find_some10 HI.out hx hf)
      have hcall := HP.out x (List.mem_of_getElem? hx) wr HG.out
      generalize p x = b at hcall HT HX
      clear hx
      obtain ⟨⟨cn, cs, cv, cm⟩, A1, c1, A2, c2⟩ := x
      unfold cvCells at hcall
      simp only at q0 q1 q2 q3 hcall
      generalize cv.length = nv at *
      generalize cm.length = nm at *
      cases b
      · go_wp2_with (go_at_fn g; refine hcall.mono ?_; rintro e w2 ⟨rfl, hg2⟩)
        go_round
        case rel => exact ⟨i + 1, by go_num, by omega, HG.out.trans hg2, HT⟩
        case measure => simp [intOf]; omega
      · go_wp2_with (go_at_fn g; refine hcall.mono ?_; rintro e w2 ⟨rfl, hg2⟩)
        go_ret
        exact ⟨by rw [HX.out (by trivial)]; rfl, HG.out.trans hg2⟩
    · have hin : i = n := by omega
      subst hin
      go_wp2_with fail
      go_ret
      refine ⟨?_, HG.out⟩
      have := HI.out
      rw [EN.out, List.take_length] at this
      rw [HR.out, find_none10 this]
      rfl
set_option maxRecDepth 100000 in
theorem anyInt_c (g : Nat) (lb : Array Value) (eg : ∀ args w, (callFunc g args).run Tryz.prog w = .ok (.enter g args) w) (p : Int → Bool) (A : Option Addr) (c : Nat) (l : List Int) (w : World) (h : IntsAt w w.heap.size A l) (hl : l.length ≤ 1000000)
    (hp : ∀ x ∈ l, ∀ W, Grew w W → Calls Tryz.prog g (#[.int .i64 x] ++ lb) W fun e w' => e = .returned (.bool (p x)) ∧ Grew W w') :
    Calls Tryz.prog 56 #[.slice A l.length c, .func (.func g) #[] lb] w fun e w' => e = .returned (.bool (l.any p)) ∧ Grew w w' := by
  have HI := hid (idxInt_c g lb eg p A c l w h hl hp)
  have HB := hid ((optI_ge (l.findIdx? p)).trans some_any10)
  clear h hp hl eg
  unfold IdxPost at HI
  generalize l.any p = b at *
  generalize optI (l.findIdx? p) = r at *
  generalize l.length = n at *
  go_enter Tryz.func56, Tryz.ntmps56
  go_wp2_with fail
  refine HI.out.mono ?_
  rintro e w1 ⟨rfl, hg⟩
  go_wp2_with fail
  go_ret
  exact ⟨congrArg (fun z => Ending.returned (.bool z)) HB.out, hg⟩
set_option maxRecDepth 100000 in
theorem anyStr_c (g : Nat) (lb : Array Value) (eg : ∀ args w, (callFunc g args).run Tryz.prog w = .ok (.enter g args) w) (p : ByteArray → Bool) (A : Option Addr) (c : Nat) (l : List ByteArray) (w : World) (h : StrsAt w w.heap.size A l) (hl : l.length ≤ 1000000)
    (hp : ∀ x ∈ l, ∀ W, Grew w W → Calls Tryz.prog g (#[.string x] ++ lb) W fun e w' => e = .returned (.bool (p x)) ∧ Grew W w') :
    Calls Tryz.prog 75 #[.slice A l.length c, .func (.func g) #[] lb] w fun e w' => e = .returned (.bool (l.any p)) ∧ Grew w w' := by
  have HI := hid (idxStr_c g lb eg p A c l w h hl hp)
  have HB := hid ((optI_ge (l.findIdx? p)).trans some_any10)
  clear h hp hl eg
  unfold IdxPost at HI
  generalize l.any p = b at *
  generalize optI (l.findIdx? p) = r at *
  generalize l.length = n at *
  go_enter Tryz.func75, Tryz.ntmps75
  go_wp2_with fail
  refine HI.out.mono ?_
  rintro e w1 ⟨rfl, hg⟩
  go_wp2_with fail
  go_ret
  exact ⟨congrArg (fun z => Ending.returned (.bool z)) HB.out, hg⟩
set_option maxRecDepth 100000 in
set_option maxHeartbeats 2000000 in
theorem idxOfInt_c (x : Int) (A : Option Addr) (c : Nat) (l : List Int) (w : World) (h : IntsAt w w.heap.size A l) (hl : l.length ≤ 1000000) :
    Calls Tryz.prog 61 #[.slice A l.length c, .int .i64 x] w fun e w' => e = .returned (.int .i64 (optI (l.findIdx? fun y => decide (y = x)))) ∧ w' = w := by
  obtain ⟨n, en⟩ : ∃ n, n = l.length := ⟨_, rfl⟩
  have HA := hid h
  rw [← en] at hl ⊢
  have EN := hid en
  clear h en
  obtain ⟨R, hR⟩ : ∃ R, R = l.findIdx? fun y => decide (y = x) := ⟨_, rfl⟩
  rw [← hR]
  have HR := hid hR
  clear hR
  go_enter Tryz.func61, Tryz.ntmps61
  go_wp2_with fail
  go_loop [5, 8] (fun _ s8 => ∃ i : Nat, s8 = .int .i64 ((i : Nat) : Int) ∧ i ≤ n ∧ Hid ((l.take i).any (fun y => decide (y = x)) = false)) (fun _ s8 => n - (intOf s8).toNat)
  case atStart => exact ⟨0, rfl, Nat.zero_le _, hid (by simp)⟩
  case round =>
    obtain ⟨i, rfl, hi, HI⟩ := hrel
    by_cases hlt : i < n
    · have f1 : (i : Int) < n := by omega
      obtain ⟨ad, y, rfl, hx, q0, hb⟩ := int_at HA.out (Grew.refl _) (i := i) (by rw [← EN.out]; exact hlt)
      have HT : Hid ((l.take (i + 1)).any (fun y => decide (y = x)) = decide (y = x)) := hid (by
        rw [List.take_add_one, hx, List.any_append, HI.out]
        simp)
      have HX : Hid (y = x → R = some i) := hid (fun hf => by rw [HR.out]; exact find_some10 HI.out hx (decide_eq_true hf))
      clear hx
      by_cases he : x = y
      · have HX2 := hid (HX.out he.symm)
        clear HX HT
        go_wp2_with fail
        go_ret
        exact ⟨by rw [HX2.out]; rfl, rfl⟩
      · have HT2 := hid (HT.out.trans (decide_eq_false (fun h => he h.symm)))
        clear HX HT
        go_wp2_with fail
        go_round
        case rel => exact ⟨i + 1, by go_num, by omega, HT2⟩
        case measure => simp [intOf]; omega
    · have hin : i = n := by omega
      subst hin
      go_wp2_with fail
      go_ret
      refine ⟨?_, rfl⟩
      have := HI.out
      rw [EN.out, List.take_length] at this
      rw [HR.out, find_none10 this]
      rfl
theorem hasInt_c (x : Int) (A : Option Addr) (c : Nat) (l : List Int) (w : World) (h : IntsAt w w.heap.size A l) (hl : l.length ≤ 1000000) :
    Calls Tryz.prog 41 #[.slice A l.length c, .int .i64 x] w fun e w' => e = .returned (.bool (l.any fun y => decide (y = x))) ∧ w' = w := by
  have HI := hid (idxOfInt_c x A c l w h hl)
  have HB := hid ((optI_ge (l.findIdx? fun y => decide (y = x))).trans some_any10)
  clear h hl
  generalize (l.any fun y => decide (y = x)) = b at *
  generalize optI (l.findIdx? fun y => decide (y = x)) = r at *
  generalize l.length = n at *
  go_enter Tryz.func41, Tryz.ntmps41
  go_wp2_with fail
  refine HI.out.mono ?_
  rintro e w1 ⟨rfl, rfl⟩
  go_wp2_with fail
  go_ret
  exact ⟨congrArg (fun z => Ending.returned (.bool z)) HB.out, rfl⟩
end Go.Proofs.YtjladeiecokpfaaGreatDoor

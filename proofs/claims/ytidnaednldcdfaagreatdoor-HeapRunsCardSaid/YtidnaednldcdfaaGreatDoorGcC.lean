/- Parts of elder texts that this layer needs, joined: XHmL XHmO XHmQ XHmS XHmT. -/
import Derived.Test.YtidnaednldcdfaaGreatDoorGcB
import Derived.Test.YtidnaednldcdfaaGreatDoorGaA
namespace Go.Proofs.YtidnaednldcdfaaGreatDoor
open Go.RowKit

def intF (x : Int) : List Value := [.int .i64 x]
theorem intF_len (x : Int) : (intF x).length = 1 := rfl
def IntsAt (w : World) (A : Option Addr) (l : List Int) : Prop := 0 < l.length → ∃ ad, A = some ad ∧ ad.block < w.heap.size ∧ CellsAt 1 intF w ad l
theorem IntsAt.grew {w w' : World} {A : Option Addr} {l : List Int} (h : IntsAt w A l) (hg : Grew w w') : IntsAt w' A l := fun hl => by
  obtain ⟨ad, h1, h2, h3⟩ := h hl
  exact ⟨ad, h1, Nat.lt_of_lt_of_le h2 hg.below.size, h3.kept (F := fun _ => False) (.of_grew hg) h2 (fun h => h)⟩
theorem int_at {w wr : World} {A : Option Addr} {l : List Int} (h : IntsAt w A l) (hg : Grew w wr) {i : Nat} (hi : i < l.length) : ∃ ad x, A = some ad ∧ l[i]? = some x ∧ wr.cell? (ad.add i) = some (.int .i64 x) ∧ ad.block < wr.heap.size := by
  obtain ⟨ad, e, hb, hc⟩ := h (by omega)
  have hv := List.getElem?_eq_getElem hi
  refine ⟨ad, l[i], e, hv, ?_, Nat.lt_of_lt_of_le hb hg.below.size⟩
  rw [hg.below.cell (by rw [block_add]; exact hb)]
  have := hc i _ hv 0 _ rfl
  simpa using this
set_option maxRecDepth 100000 in
set_option maxHeartbeats 1000000 in
theorem idxInt_c (g : Nat) (lb : Array Value) (eg : ∀ args w, (callFunc g args).run Tryz.prog w = .ok (.enter g args) w) (p : Int → Bool) (A : Option Addr) (c : Nat) (l : List Int) (w : World) (h : IntsAt w A l) (hl : l.length ≤ 1000000)
    (hp : ∀ x ∈ l, ∀ W, Grew w W → Calls Tryz.prog g (#[.int .i64 x] ++ lb) W fun e w' => e = .returned (.bool (p x)) ∧ Grew W w') :
    Calls Tryz.prog 80 #[.slice A l.length c, .func (.func g) #[] lb] w fun e w' => (∃ r : Int, e = .returned (.int .i64 r) ∧ (0 ≤ r ↔ l.any p = true)) ∧ Grew w w' := by
  obtain ⟨n, en⟩ : ∃ n, n = l.length := ⟨_, rfl⟩
  have HA := hid h
  have HP := hid hp
  rw [← en] at hl ⊢
  have EN := hid en
  clear h hp en
  go_enter Tryz.func80, Tryz.ntmps80
  go_wp2_with fail
  go_loopw [5, 8] (fun _ s8 wr => ∃ i : Nat, s8 = .int .i64 ((i : Nat) : Int) ∧ i ≤ n ∧ Grew w wr ∧ Hid ((l.take i).any p = false)) (fun _ s8 _ => n - (intOf s8).toNat)
  case atStart => exact ⟨0, rfl, Nat.zero_le _, Grew.refl _, hid (by simp)⟩
  case round =>
    obtain ⟨i, rfl, hi, hg, HI⟩ := hrel
    have HG := hid hg
    clear hg
    by_cases hlt : i < n
    · have f1 : (i : Int) < n := by omega
      obtain ⟨ad, x, rfl, hx, q0, hb⟩ := int_at HA.out HG.out (i := i) (by rw [← EN.out]; exact hlt)
      have HT : Hid ((l.take (i + 1)).any p = p x) := hid (by
        rw [List.take_add_one, hx, List.any_append, HI.out]
        simp)
      have HX : Hid (p x = true → l.any p = true) := hid (fun hf => List.any_eq_true.2 ⟨x, List.mem_of_getElem? hx, hf⟩)
      have hcall := HP.out x (List.mem_of_getElem? hx) wr HG.out
      generalize p x = b at hcall HT HX
      clear hx
      cases b
      · go_wp2_with (go_at_fn g; refine hcall.mono ?_; rintro e w2 ⟨rfl, hg2⟩)
        go_round
        case rel => exact ⟨i + 1, by go_num, by omega, HG.out.trans hg2, HT⟩
        case measure => simp [intOf]; omega
      · go_wp2_with (go_at_fn g; refine hcall.mono ?_; rintro e w2 ⟨rfl, hg2⟩)
        go_ret
        exact ⟨⟨_, rfl, by rw [HX.out (by trivial)]; simp⟩, HG.out.trans hg2⟩
    · have hin : i = n := by omega
      subst hin
      go_wp2_with fail
      go_ret
      refine ⟨⟨_, rfl, ?_⟩, HG.out⟩
      have := HI.out
      rw [EN.out, List.take_length] at this
      rw [this]
      simp
theorem anyInt_c (g : Nat) (lb : Array Value) (eg : ∀ args w, (callFunc g args).run Tryz.prog w = .ok (.enter g args) w) (p : Int → Bool) (A : Option Addr) (c : Nat) (l : List Int) (w : World) (h : IntsAt w A l) (hl : l.length ≤ 1000000)
    (hp : ∀ x ∈ l, ∀ W, Grew w W → Calls Tryz.prog g (#[.int .i64 x] ++ lb) W fun e w' => e = .returned (.bool (p x)) ∧ Grew W w') :
    Calls Tryz.prog 51 #[.slice A l.length c, .func (.func g) #[] lb] w fun e w' => e = .returned (.bool (l.any p)) ∧ Grew w w' := by
  have HI := hid (idxInt_c g lb eg p A c l w h hl hp)
  clear h hp hl eg
  generalize l.any p = b at *
  generalize l.length = n at *
  go_enter Tryz.func51, Tryz.ntmps51
  go_wp2_with fail
  refine HI.out.mono ?_
  rintro e w1 ⟨⟨r, rfl, hr⟩, hg⟩
  have HD := hid (show decide ((0 : Int) ≤ r) = b by rw [Bool.eq_iff_iff, decide_eq_true_iff]; exact hr)
  clear hr
  go_wp2_with fail
  go_ret
  exact ⟨congrArg (fun z => Ending.returned (.bool z)) HD.out, hg⟩
theorem newOther_c (x : Int) (w : World) : Calls Tryz.prog 49 #[.int .i64 x] w fun e w' => e = .returned (.bool (!limB x)) ∧ Grew w w' := by
  have HV := hid (fun W => limit_c x W)
  generalize limB x = b at *
  go_enter Tryz.func49, Tryz.ntmps49
  go_wp2_with (go_at_call 50; refine (HV.out _).mono ?_; rintro e w2 ⟨rfl, hg2⟩)
  go_ret
  exact ⟨rfl, hg2⟩
set_option maxRecDepth 100000 in
set_option maxHeartbeats 2000000 in
theorem cloneI_c (A : Option Addr) (c : Nat) (l : List Int) (w : World) (h : IntsAt w A l) (hl : l.length ≤ 1000) : Calls Tryz.prog 85 #[.slice A l.length c] w fun e w' => ∃ A' c', e = .returned (.slice A' l.length c') ∧ Row w' w.heap.size 3 1 A' l.length c' (l.flatMap intF) ∧ Grew w w' := by
  cases A with
  | none =>
    obtain rfl : l = [] := by
      cases l with
      | nil => rfl
      | cons x r => obtain ⟨ad, e, _⟩ := h (by simp); cases e
    simp only [List.length_nil, List.flatMap_nil]
    have he : ∀ W : World, (binOp .eql 23 (.slice none 0 c) (.slice none 0 0)).run Tryz.prog W = .ok (.bool true) W := fun _ => rfl
    go_enter Tryz.func85, Tryz.ntmps85
    go_wp2_with fail
    go_ret
    exact ⟨none, 0, rfl, Row.nil _ _ _ _, Grew.refl _⟩
  | some ad =>
    obtain ⟨n, en⟩ : ∃ n, n = l.length := ⟨_, rfl⟩
    obtain ⟨cs, ecs⟩ : ∃ cs, cs = l.flatMap intF := ⟨_, rfl⟩
    have HL := hid (show cs.length = n * 1 by rw [ecs, en, flatMap_length intF_len])
    have HO := hid (show ∀ u ∈ cs, u.oneCell' = true by
      rw [ecs]
      intro u hu
      obtain ⟨x, _, h⟩ := List.mem_flatMap.1 hu
      simp only [intF, List.mem_singleton] at h
      rw [h]; rfl)
    have HC := hid (show ∀ j u, cs[j]? = some u → ad.block < w.heap.size ∧ w.cell? (ad.add j) = some u by
      intro j u hu
      have h0 : 0 < l.length := by
        have h1 := (List.getElem?_eq_some_iff.1 hu).1
        rw [HL.out, en] at h1
        omega
      obtain ⟨ad', h1, h2, h3⟩ := h h0
      cases h1
      exact ⟨h2, flat_cell (by decide) intF_len h3 j u (by rw [← ecs]; exact hu)⟩)
    rw [← en] at hl ⊢
    rw [← ecs]
    clear h en ecs
    have he : ∀ W : World, (binOp .eql 23 (.slice (some ad) n c) (.slice none 0 0)).run Tryz.prog W = .ok (.bool false) W := fun _ => rfl
    go_enter Tryz.func85, Tryz.ntmps85
    have R0 := hid (Row.made (w := w) (e := 3) (sz := 1) (B := w.heap.size) (Nat.le_refl _))
    have G0 := hid ((Grew.refl w).alloc (.cells #[] 3))
    go_wp2_with (at_builtin; refine wpList_catR (.int .i64 0) 1 8 _ rfl _ _ 23 3 rfl Tryz.underlying23 (by kernel_rfl) rfl (by decide) w.heap.size (by simp) (some ⟨w.heap.size, 0, none⟩) 0 0 [] rfl R0.out (some ad) n c cs rfl HL.out HO.out (by intro h; cases h) (by intro ad2 e2 j u hu; cases e2; rw [G0.out.below.cell (by rw [block_add]; exact (HC.out j u hu).1)]; exact (HC.out j u hu).2) (by omega) (by omega) ?_; rintro A8 k8 w8 hR8 hK8 hT8; rw [Nat.zero_add, List.nil_append] at hR8; rw [Nat.zero_add]; have HR8 := hid hR8; have HG8 := hid (hK8.grew G0.out (Row.at_base R0.out)); clear hR8 hK8 hT8)
    go_ret
    exact ⟨A8, k8, rfl, HR8.out, HG8.out⟩
/-- The quotas. -/
def qf (room : Int) (quota : List Int) (k : Nat) : Int := quota.getD k room
def newV (g : Nat) (U : Option Addr) (cu : Nat) (up : List Nat) (room : Int) (q : Nat → Int) : HV := ⟨g, U, cu, up, room, q, fun _ => 0, fun _ => 0, none, 0, [], 0, 0⟩
theorem quota_splice (g : Nat) (U : Option Addr) (cu : Nat) (up : List Nat) (room : Int) (quota : List Int) (h : quota.length ≤ 8) : splice (hvC (newV g U cu up room (fun _ => room))).toList 2 (quota.flatMap intF) = (hvC (newV g U cu up room (qf room quota))).toList := by
  match quota, h with
  | [], _ => rfl
  | [_], _ => rfl
  | [_, _], _ => rfl
  | [_, _, _], _ => rfl
  | [_, _, _, _], _ => rfl
  | [_, _, _, _, _], _ => rfl
  | [_, _, _, _, _, _], _ => rfl
  | [_, _, _, _, _, _, _], _ => rfl
  | [_, _, _, _, _, _, _, _], _ => rfl
  | _ :: _ :: _ :: _ :: _ :: _ :: _ :: _ :: _ :: _, h => simp at h
/-- What New answers: an error's number. -/
def newCode (up : List Nat) (room : Int) (quota : List Int) : Nat := if La.valid up = false then 7 else if !limB room || (decide (up.length < quota.length) || quota.any (fun x => !limB x)) then 1 else 0
theorem lim_spec {x : Int} (h : limB x = true) : 0 ≤ x ∧ x ≤ 1048576 := by simpa [limB] using h
theorem newV_ok {g : Nat} {U : Option Addr} {cu : Nat} {up : List Nat} {room : Int} {quota : List Int} (h : newCode up room quota = 0) : HvOk (newV g U cu up room (qf room quota)) 0 ∧ quota.length ≤ up.length := by
  unfold newCode at h
  split at h
  · cases h
  rename_i hv
  split at h
  · cases h
  rename_i h2
  simp only [Bool.or_eq_true, Bool.not_eq_true', decide_eq_true_eq, not_or, Nat.not_lt] at h2
  have hr : limB room = true := by cases hb : limB room <;> simp_all
  have hq : ∀ x ∈ quota, limB x = true := fun x hx => by
    cases hb : limB x
    · exact absurd (List.any_eq_true.2 ⟨x, hx, by rw [hb]; rfl⟩) h2.2.2
    · rfl
  have hq' : ∀ j, 0 ≤ qf room quota j ∧ qf room quota j ≤ 1048576 := fun j => by
    unfold qf
    rw [List.getD_eq_getElem?_getD]
    cases hj : quota[j]? with
    | none => exact lim_spec hr
    | some x => exact lim_spec (hq x (List.mem_of_getElem? hj))
  refine ⟨⟨by simpa [newV] using hv, lim_spec hr, hq', fun j => ⟨Int.le_refl _, Int.le_refl _⟩, fun j => rfl, rfl, fun x hx => (by cases hx), fun x hx => (by cases hx), fun j _ => (hq' j).1, (lim_spec hr).1, by simp [newV], ⟨Int.le_refl _, Int.le_refl _, fun k hk => ?_⟩, by decide⟩, h2.2.1⟩
  have h3 : (k : Int) < 0 := hk
  omega
end Go.Proofs.YtidnaednldcdfaaGreatDoor
namespace Go.Proofs.YtidnaednldcdfaaGreatDoor
open Go.RowKit

/-- What New answers. -/
def NewV (w : World) (up : List Nat) (room : Int) (quota : List Int) (e : Ending) (w' : World) : Prop :=
  if newCode up room quota = 0 then ∃ v, e = .returned (.tuple #[.pointer (some ⟨v.g, 0, none⟩), .nilIface]) ∧ MemAt w' w.heap.size v ∧ HvOk v 0 ∧ v.up = up ∧ v.room = room ∧ v.q = qf room quota ∧ v.cn = (fun _ => 0) ∧ v.sl = [] ∧ Grew w w'
  else e = .returned (.tuple #[.pointer none, errVal (newCode up room quota)]) ∧ Grew w w'
theorem newV_bad {w w' : World} {up : List Nat} {room : Int} {quota : List Int} (hg : Grew w w') (k : Nat) (hk : k ≠ 0) (h : newCode up room quota = k) : NewV w up room quota (.returned (.tuple #[.pointer none, errVal k])) w' := by
  unfold NewV
  rw [h, if_neg hk]
  exact ⟨rfl, hg⟩
theorem newV_mem {w0 w : World} {g : Nat} {U : Option Addr} {cu : Nat} {up : List Nat} {room : Int} {q : Nat → Int} (hb : Blk w g 95 (hvC (newV g U cu up room q))) (h0 : w0.heap.size ≤ g) (hU : BytesAt w w.heap.size U up) (hlt : ∀ ad, U = some ad → ad.block < g) (hlo : ∀ ad, U = some ad → w0.heap.size ≤ ad.block) : MemAt w w0.heap.size (newV g U cu up room q) := by
  refine ⟨hb, h0, hU, fun ad e hk => ?_, fun ad e => Nat.lt_trans (hlt ad e) hb.lt, hlo, Row.nil _ _ _ _, fun i x hx => ?_, fun i j x y hx => ?_⟩
  · have h1 := hlt ad e
    rcases hk with h2 | ⟨a, h2, _⟩ | ⟨i, x, h2, _⟩
    · have h3 : ad.block = g := h2
      omega
    · cases h2
    · simp [newV] at h2
  · simp [newV] at hx
  · simp [newV] at hx
theorem u8_info : (Tryz.prog.info? 5).map (fun i => (i.zero, i.size, i.bytes)) = some (some (.int .u8 0), 1, 1) := by kernel_rfl
theorem bytes_cells {w : World} {B : Nat} {A : Option Addr} {up : List Nat} (h : BytesAt w B A up) : ∀ ad, A = some ad → ∀ j u, (numCells .u8 up)[j]? = some u → w.cell? (ad.add j) = some u := fun ad e j u hu => by
  have hj : j < up.length := by
    have := (List.getElem?_eq_some_iff.1 hu).1
    simpa [numCells] using this
  obtain ⟨ad', h1, _, hc⟩ := h.2 (by omega)
  rw [e] at h1
  cases h1
  rw [hc j hj, ← numCells_get .u8 up j hj]
  exact hu
theorem bytes_row {w : World} {B : Nat} {e : TypeId} {A : Option Addr} {c : Nat} {up : List Nat} (h1 : ∀ x ∈ up, x < 256) (h : Row w B e 1 A up.length c (numCells .u8 up)) : BytesAt w w.heap.size A up := ⟨h1, fun hl => (Row.nums h) hl⟩
set_option maxRecDepth 100000 in
theorem clone2_c (ad : Addr) (c : Nat) (up : List Nat) (w : World) (hn : up.length ≤ 20) (h : BytesAt w w.heap.size (some ad) up) :
    Calls Tryz.prog 52 #[.slice (some ad) up.length c] w fun e w' => ∃ A' c', e = .returned (.slice A' up.length c') ∧ BytesAt w' w'.heap.size A' up ∧ (∀ a, A' = some a → w.heap.size ≤ a.block) ∧ Grew w w' := by
  have q22 : ∀ (w : World) (a : Option Addr) (n c n' c' : Nat), (binOp .eql 22 (.slice a n c) (.slice none n' c')).run Tryz.prog w = .ok (.bool a.isNone) w := fun w a n c n' c' => Lib.run_eql_slice_nil w _ _ a n c n' c' Tryz.underlying22
  have h1 := hid h
  have hb := Blk.new w 5 #[]
  have hg := (Grew.refl w).alloc (.cells #[] 5)
  have HS := hid (show (numCells .u8 up).length = up.length * 1 ∧ (∀ u ∈ numCells .u8 up, u.oneCell' = true) ∧ ((some ad : Option Addr) = none → up.length = 0) ∧ (∀ ad', (some ad : Option Addr) = some ad' → ∀ j u, (numCells .u8 up)[j]? = some u → (w.alloc (.cells #[] 5)).cell? (ad'.add j) = some u) from ⟨by rw [numCells_length, Nat.mul_one], numCells_one _ _, by simp, bytes_cells (h.grew hg)⟩)
  have HB := hid (Row.of_blk hb (Nat.le_refl _) rfl (by decide) : Row (w.alloc (.cells #[] 5)) w.heap.size 5 1 (some ⟨w.heap.size, 0, none⟩) 0 0 [])
  have HG := hid hg
  have hn' : (up.length : Int) ≤ 20 := by omega
  have hsz : (w.alloc (.cells #[] 5)).heap.size = w.heap.size + 1 := World.size_alloc _ _
  clear h hb hg
  go_enter Tryz.func52, Tryz.ntmps52
  go_wp2_with (at_builtin; refine wpList_catR (.int .u8 0) 1 1 (w.alloc (.cells #[] 5)) rfl _ _ 22 5 rfl Tryz.underlying22 u8_info rfl (by decide) w.heap.size (by omega) (some ⟨w.heap.size, 0, none⟩) 0 0 [] rfl HB.out (some ad) up.length c (numCells .u8 up) rfl HS.out.1 HS.out.2.1 HS.out.2.2.1 HS.out.2.2.2 (by omega) (by omega) ?_; rintro A' c' W1 hR hK hT; have HR := hid hR; have HK := hid hK; clear hR hK hT)
  go_ret
  have hR := HR.out
  rw [List.nil_append] at hR
  rw [Nat.zero_add] at hR
  exact ⟨A', ⟨c', rfl⟩, bytes_row h1.out.1 hR, fun a e => Row.at_base hR a.block ⟨a, e, rfl⟩, HK.out.grew HG.out (fun k hk => by obtain ⟨a, e1, e2⟩ := hk; cases e1; simp only at e2; omega)⟩
set_option maxRecDepth 100000 in
set_option maxHeartbeats 8000000 in
theorem hNew_c (U0 : Option Addr) (cu : Nat) (up : List Nat) (room : Int) (A : Option Addr) (c : Nat) (quota : List Int) (w : World) (hn : up.length ≤ 20) (hU : BytesAt w w.heap.size U0 up) (h : IntsAt w A quota) (hl : quota.length ≤ 1000) :
    Calls Tryz.prog 15 #[.agg #[.slice U0 up.length cu], .int .i64 room, .slice A quota.length c] w (NewV w up room quota) := by
  have HU := hid hU
  have HA := hid h
  have HCk := hid (fun W (hW : Grew w W) => check_c U0 cu up W hn (hU.grew hW))
  have HBad := hid (fun W (hW : Grew w W) k hk he => newV_bad (up := up) (room := room) (quota := quota) hW k hk he)
  have HLi := hid (fun W => limit_c room W)
  obtain ⟨un, eun⟩ : ∃ un, un = up.length := ⟨_, rfl⟩
  obtain ⟨n, en⟩ : ∃ n, n = quota.length := ⟨_, rfl⟩
  rw [← eun] at HCk ⊢
  rw [← en] at hl ⊢
  have EUN := hid eun
  have EN := hid en
  have hun : (un : Int) ≤ 20 := by omega
  have hnn : (n : Int) ≤ 1000 := by omega
  have HN20 := hid hn
  clear hU h eun en hn
  have G1 := (Grew.refl w).alloc (.cells #[.slice U0 un cu] 50)
  have B1 := Blk.new w 50 #[.slice U0 un cu]
  go_enter Tryz.func15, Tryz.ntmps15
  go_upto_region 1 with fail
  obtain ⟨gl, egl⟩ : ∃ gl, gl = w.heap.size := ⟨_, rfl⟩
  generalize w.alloc (.cells #[.slice U0 un cu] 50) = w1 at *
  rw [← egl] at B1 ⊢
  have EGL := hid egl
  have HG1 := hid G1
  have HB1 := hid B1
  have q0 := B1.cell 0
  have ql := B1.lt
  simp only [List.getElem?_toArray, List.getElem?_cons_zero] at q0
  clear G1 B1 egl
  cases hv : La.valid up
  · have HV := hid hv
    rw [hv] at HCk
    have HC : Hid (∀ W, Grew w W → Calls Tryz.prog 48 #[.agg #[.slice U0 un cu]] W fun e w' => e = .returned (.iface 91 (.int .i64 7)) ∧ Grew W w') := hid (fun W hW => HCk.out W hW)
    clear hv HCk
    go_wp2_with (go_at_call 48; refine (HC.out _ HG1.out).mono ?_; rintro e w2 ⟨rfl, hg2⟩)
    go_ret2
    exact HBad.out _ (HG1.out.trans hg2) 7 (by decide) (by unfold newCode; rw [HV.out, if_pos rfl])
  · have HV := hid hv
    have HCode := hid (show newCode up room quota = if !limB room || (decide (up.length < quota.length) || quota.any (fun x => !limB x)) then 1 else 0 by unfold newCode; rw [hv, if_neg (by decide)])
    rw [hv] at HCk
    have HC : Hid (∀ W, Grew w W → Calls Tryz.prog 48 #[.agg #[.slice U0 un cu]] W fun e w' => e = .returned .nilIface ∧ Grew W w') := hid (fun W hW => HCk.out W hW)
    clear hv HCk
    go_upto_region 5 with (go_at_call 48; refine (HC.out _ HG1.out).mono ?_; rintro e w2 ⟨rfl, hg2⟩)
    have HG2 := hid (HG1.out.trans hg2)
    have HB2 := hid (HB1.out.grew hg2)
    clear q0 ql hg2 HC HB1
    rw [← EUN.out, ← EN.out] at HCode
    cases hb1 : limB room
    · rw [hb1] at HCode HLi
      have HC1 := hid (show newCode up room quota = 1 from HCode.out)
      clear HCode hb1
      go_wp2_with (go_at_call 50; refine (HLi.out _).mono ?_; rintro e w3 ⟨rfl, hg3⟩)
      go_ret2
      exact HBad.out _ (HG2.out.trans hg3) 1 (by decide) HC1.out
    · rw [hb1] at HCode HLi
      by_cases hc : un < n
      · have f1 : (un : Int) < (n : Int) := by omega
        rw [decide_eq_true hc] at HCode
        have HC1 := hid (show newCode up room quota = 1 from HCode.out)
        clear HCode hb1
        go_wp2_with (go_at_call 50; refine (HLi.out _).mono ?_; rintro e w3 ⟨rfl, hg3⟩; have HB3 := hid (HB2.out.grew hg3); have q0 := HB3.out.cell 0; have ql := HB3.out.lt; simp only [List.getElem?_toArray, List.getElem?_cons_zero] at q0)
        go_ret2
        exact HBad.out _ (HG2.out.trans hg3) 1 (by decide) HC1.out
      · have f1 : ¬ (un : Int) < (n : Int) := by omega
        rw [decide_eq_false hc] at HCode
        have HAny := hid (fun W (hW : Grew w W) => anyInt_c 49 #[] (fun _ _ => rfl) (fun x => !limB x) A c quota W (HA.out.grew hW) (by rw [← EN.out]; omega) (fun x _ W' _ => newOther_c x W'))
        rw [← EN.out] at HAny
        obtain ⟨ba, eba⟩ : ∃ ba, ba = quota.any (fun x => !limB x) := ⟨_, rfl⟩
        rw [← eba] at HAny HCode
        clear eba
        cases ba
        · have HC0 := hid (show newCode up room quota = 0 from HCode.out)
          clear HCode hb1
          go_upto_region 7 with first | (go_at_call 50; refine (HLi.out _).mono ?_; rintro e w3 ⟨rfl, hg3⟩; have HB3 := hid (HB2.out.grew hg3); have q0 := HB3.out.cell 0; have ql := HB3.out.lt; simp only [List.getElem?_toArray, List.getElem?_cons_zero] at q0) | (go_at_call 51; refine (HAny.out _ (HG2.out.trans hg3)).mono ?_; rintro e w4 ⟨rfl, hg4⟩)
          have HG4 := hid ((HG2.out.trans hg3).trans hg4)
          have HB4 := hid (HB3.out.grew hg4)
          clear q0 ql hg3 hg4 HB2 HB3 HAny HLi
          have p0 := HB4.out.cell 0
          have pl := HB4.out.lt
          simp only [List.getElem?_toArray, List.getElem?_cons_zero] at p0
          obtain ⟨ad, rfl, _⟩ := HU.out.2 (La.valid_spec HV.out).1
          have HCl := hid (clone2_c ad cu up w4 HN20.out (HU.out.grew HG4.out))
          rw [← EUN.out] at HCl
          go_upto_region 8 with (go_at_call 52; refine HCl.out.mono ?_; rintro e w5 ⟨U1, c1, rfl, hU1, hlo, hg5⟩; have HU1 := hid hU1; have HLo0 := hid hlo; clear hlo; have HG5 := hid (HG4.out.trans hg5); clear hU1 hg5)
          obtain ⟨g, eg⟩ : ∃ g, g = w5.heap.size := ⟨_, rfl⟩
          have hbk := Blk.new w5 95 #[.slice U1 un c1, .int .i64 room, .int .i64 0, .int .i64 0, .int .i64 0, .int .i64 0, .int .i64 0, .int .i64 0, .int .i64 0, .int .i64 0, .int .i64 0, .int .i64 0, .int .i64 0, .int .i64 0, .int .i64 0, .int .i64 0, .int .i64 0, .int .i64 0, .int .i64 0, .int .i64 0, .int .i64 0, .int .i64 0, .int .i64 0, .int .i64 0, .int .i64 0, .int .i64 0, .slice none 0 0, .int .i64 0, .int .i64 0]
          have hgr := (Grew.refl w5).alloc (.cells #[.slice U1 un c1, .int .i64 room, .int .i64 0, .int .i64 0, .int .i64 0, .int .i64 0, .int .i64 0, .int .i64 0, .int .i64 0, .int .i64 0, .int .i64 0, .int .i64 0, .int .i64 0, .int .i64 0, .int .i64 0, .int .i64 0, .int .i64 0, .int .i64 0, .int .i64 0, .int .i64 0, .int .i64 0, .int .i64 0, .int .i64 0, .int .i64 0, .int .i64 0, .int .i64 0, .slice none 0 0, .int .i64 0, .int .i64 0] 95)
          generalize w5.alloc (.cells #[.slice U1 un c1, .int .i64 room, .int .i64 0, .int .i64 0, .int .i64 0, .int .i64 0, .int .i64 0, .int .i64 0, .int .i64 0, .int .i64 0, .int .i64 0, .int .i64 0, .int .i64 0, .int .i64 0, .int .i64 0, .int .i64 0, .int .i64 0, .int .i64 0, .int .i64 0, .int .i64 0, .int .i64 0, .int .i64 0, .int .i64 0, .int .i64 0, .int .i64 0, .int .i64 0, .slice none 0 0, .int .i64 0, .int .i64 0] 95) = w6 at *
          rw [← eg] at hbk ⊢
          have HB6 : Hid (Blk w6 g 95 (hvC (newV g U1 c1 up room (fun _ => 0)))) := hid (by
            rw [EUN.out] at hbk
            exact hbk)
          have HG6 := hid (HG5.out.trans hgr)
          have HU6 := hid (HU1.out.grew hgr)
          have HLt := hid (show ∀ ad, U1 = some ad → ad.block < g from fun ad e => by
            obtain ⟨ad', h1, h2, _⟩ := HU1.out.2 (La.valid_spec HV.out).1
            rw [e] at h1
            cases h1
            rw [eg]
            exact h2)
          have HLo := hid (show ∀ ad, U1 = some ad → w.heap.size ≤ ad.block from fun ad e => Nat.le_trans HG4.out.below.size (HLo0.out ad e))
          have HGw := hid (show w.heap.size ≤ g by rw [eg]; exact HG5.out.below.size)
          clear hbk hgr p0 pl HG4 HB4 HCl HG5 HU1 eg
          go_wp2_with fail
          go_loopw [11, 41] (fun _ s41 wr => ∃ (k : Nat), s41 = .int .i64 ((k : Nat) : Int) ∧ k ≤ 8 ∧ Hid (Blk wr g 95 (hvC (newV g U1 c1 up room (fun i => if i < k then room else 0)))) ∧ Hid (Kept (fun b => b = g) w6 wr)) (fun _ s41 _ => 8 - (intOf s41).toNat)
          case atStart => exact ⟨0, rfl, by decide, by have := HB6; simpa using this, hid (Kept.refl _ _)⟩
          case round =>
            obtain ⟨k, rfl, hk, HBr, HKr⟩ := hrel
            by_cases hlt : k < 8
            · have f2 : (k : Int) < 8 := by omega
              have x0 := HBr.out.cell (2 + k)
              rw [hv_q _ k hlt] at x0
              have xf := HBr.out.frozen (2 + k)
              have xl := HBr.out.lt
              go_wp2_with fail
              go_round
              case rel =>
                refine ⟨k + 1, by go_num, by omega, hid ?_, hid (HKr.out.setCell (p := ⟨g, 2 + k, none⟩) (fun _ => rfl) _)⟩
                have h1 := HBr.out.put (2 + k) (.int .i64 room)
                rw [set_q _ k hlt] at h1
                have e : upd (newV g U1 c1 up room (fun i => if i < k then room else 0)).q k room = fun i => if i < k + 1 then room else 0 := by
                  funext i
                  unfold upd newV
                  simp only
                  by_cases h2 : i = k
                  · rw [if_pos h2, if_pos (by omega)]
                  · by_cases h3 : i < k
                    · rw [if_neg h2, if_pos h3, if_pos (by omega)]
                    · rw [if_neg h2, if_neg h3, if_neg (by omega)]
                rw [e] at h1
                exact h1
              case measure => simp [intOf]; omega
            · have f2 : ¬ (k : Int) < 8 := by omega
              have HBe : Hid (Blk wr g 95 (hvC (newV g U1 c1 up room (fun _ => room)))) := hid (by
                have h1 := HBr.out
                have e : (hvC (newV g U1 c1 up room (fun i => if i < k then room else 0))) = hvC (newV g U1 c1 up room (fun _ => room)) := by
                  obtain rfl : k = 8 := by omega
                  rfl
                rw [e] at h1
                exact h1)
              have HGr := hid (HKr.out.grew HG6.out (fun b e => by subst e; exact HGw.out))
              go_upto_region 13 with fail
              have HQ8 := hid ((newV_ok (g := g) (U := U1) (cu := c1) HC0.out).2)
              have HFin : Hid (∀ W, Blk W g 95 (hvC (newV g U1 c1 up room (qf room quota))) → Grew wr W ∨ Kept (fun b => b = g) wr W → NewV w up room quota (.returned (.tuple #[.pointer (some ⟨g, 0, none⟩), .nilIface])) W) := hid (fun W hB hK => by
                have hg8 : Grew w W := by
                  rcases hK with h1 | h1
                  · exact HGr.out.trans h1
                  · exact h1.grew HGr.out (fun b e => by subst e; exact HGw.out)
                have hg7 : Kept (fun b => b = g) w6 W := by
                  rcases hK with h1 | h1
                  · exact HKr.out.trans (Kept.of_grew h1)
                  · exact HKr.out.trans h1
                unfold NewV
                rw [if_pos HC0.out]
                refine ⟨newV g U1 c1 up room (qf room quota), rfl, newV_mem hB HGw.out ⟨HU6.out.1, fun hl => ?_⟩ HLt.out HLo.out, (newV_ok HC0.out).1, rfl, rfl, rfl, rfl, rfl, hg8⟩
                obtain ⟨ad, h1, h2, h3⟩ := HU6.out.2 hl
                exact ⟨ad, h1, Nat.lt_of_lt_of_le h2 hg7.size, fun j hj => (hg7.cell (by rw [block_add]; exact h2) (by rw [block_add]; have := HLt.out ad h1; omega)).trans (h3 j hj)⟩)
              rcases Nat.eq_zero_or_pos n with h0 | h0
              · have hq0 : quota = [] := List.eq_nil_of_length_eq_zero (by rw [← EN.out]; exact h0)
                subst hq0
                obtain rfl : n = 0 := h0
                have hrun := fun W => run_copy0 (P := Tryz.prog) (w := W) 1 23 23 3 3 Tryz.underlying23 (by kernel_rfl) (some ⟨g, 2, none⟩) A 8 8 0 c (by decide)
                go_wp2_with fail
                go_ret2
                exact HFin.out wr HBe.out (.inl (Grew.refl _))
              · obtain ⟨aq, rfl, hbq, hcq⟩ := (HA.out.grew HGr.out) (by rw [← EN.out]; exact h0)
                have hq8 := HQ8.out
                have h8 := (La.valid_spec HV.out).2
                have hn8 : quota.length ≤ 8 := Nat.le_trans hq8 h8
                have hn9 : n ≤ 8 := by rw [EN.out]; exact hn8
                obtain ⟨w7, hrun, hb7, hk7⟩ := run_copyS (P := Tryz.prog) 1 wr 23 23 3 3 g 2 8 8 aq n c (hvC (newV g U1 c1 up room (fun _ => room))).toList 95 (quota.flatMap intF) Tryz.underlying23 (by kernel_rfl) HBe.out (by rw [flatMap_length intF_len, ← EN.out, show Nat.min n 8 = n from Nat.min_eq_left hn9]) (flat_cell (by decide) intF_len hcq) (by rw [flatMap_length intF_len]; show 2 + quota.length * 1 ≤ 29; omega) (fun u hu => by
                  obtain ⟨x, _, h⟩ := List.mem_flatMap.1 hu
                  simp only [intF, List.mem_singleton] at h
                  rw [h]; rfl)
                rw [quota_splice g U1 c1 up room quota hn8] at hb7
                have HFi := hid (HFin.out w7 hb7 (.inr hk7))
                clear hb7 hk7 hq8 h8 hn8 hn9 hbq hcq HFin
                go_wp2_with fail
                go_ret2
                exact HFi.out
        · have HC1 := hid (show newCode up room quota = 1 from HCode.out)
          clear HCode hb1
          go_wp2_with first | (go_at_call 50; refine (HLi.out _).mono ?_; rintro e w3 ⟨rfl, hg3⟩; have HB3 := hid (HB2.out.grew hg3); have q0 := HB3.out.cell 0; have ql := HB3.out.lt; simp only [List.getElem?_toArray, List.getElem?_cons_zero] at q0) | (go_at_call 51; refine (HAny.out _ (HG2.out.trans hg3)).mono ?_; rintro e w4 ⟨rfl, hg4⟩)
          go_ret2
          exact HBad.out _ ((HG2.out.trans hg3).trans hg4) 1 (by decide) HC1.out
end Go.Proofs.YtidnaednldcdfaaGreatDoor
namespace Go.Proofs.YtidnaednldcdfaaGreatDoor
open Go.RowKit

def opI (l : List (Nat × SX)) : List Hp.It := l.map (fun y => ⟨(y.1 : Int), y.2.h, y.2.o⟩)
def opV (l : List (Nat × SX)) : List Value := l.map (fun y => .pointer (some ⟨y.2.p, 0, none⟩))
def marksC (N : Nat) (M : List Int) : List Value := (List.range N).map (fun (k : Nat) => .bool (decide ((k : Int) ∈ M)))
theorem marksC_len (N : Nat) (M : List Int) : (marksC N M).length = N := by simp [marksC]
theorem marksC_get (N : Nat) (M : List Int) {k : Nat} (hk : k < N) : (marksC N M)[k]? = some (.bool (decide ((k : Int) ∈ M))) := by
  unfold marksC
  rw [List.getElem?_map, List.getElem?_range hk]
  rfl
theorem marksC_set (N : Nat) (M : List Int) {i : Nat} : (marksC N M).set i (.bool true) = marksC N ((i : Int) :: M) := by
  apply List.ext_getElem?
  intro k
  rw [List.getElem?_set, marksC_len]
  rcases Nat.lt_or_ge k N with h | h
  · rw [marksC_get N _ h, marksC_get N _ h]
    by_cases e : i = k
    · subst e
      rw [if_pos rfl, if_pos h]
      simp
    · rw [if_neg e]
      have : ¬ ((k : Int) = (i : Int)) := by omega
      simp [this]
  · have e1 : (marksC N M)[k]? = none := List.getElem?_eq_none (by rw [marksC_len]; exact h)
    have e2 : (marksC N ((i : Int) :: M))[k]? = none := List.getElem?_eq_none (by rw [marksC_len]; exact h)
    rw [e1, e2]
    by_cases e : i = k
    · rw [if_pos e, if_neg (by omega)]
    · rw [if_neg e]
/-- What 'reached' holds in memory. -/
structure RchAt (w0 w : World) (v : HV) (gb gm go M : Nat) (Mk : List Int) (op : List (Nat × SX)) (A : Option Addr) (c : Nat) : Prop where
  b1 : Blk w gb 27 #[.pointer (some ⟨v.g, 0, none⟩)]
  b2 : Blk w gm 103 #[.slice (some ⟨M, 0, none⟩) v.sl.length v.sl.length]
  b3 : Blk w M 4 (marksC v.sl.length Mk).toArray
  b4 : Blk w go 93 #[.slice A op.length c]
  row : Row w w0.heap.size 84 1 A op.length c (opV op)
  l1 : w0.heap.size ≤ gb
  l2 : w0.heap.size ≤ gm
  l3 : w0.heap.size ≤ M
  l4 : w0.heap.size ≤ go
  gr : Grew w0 w
  mem : ∀ y ∈ op, v.sl[y.1]? = some (some y.2)
theorem RchAt.grew {w0 w w' : World} {v : HV} {gb gm go M : Nat} {Mk : List Int} {op : List (Nat × SX)} {A : Option Addr} {c : Nat} (h : RchAt w0 w v gb gm go M Mk op A c) (hg : Grew w w') : RchAt w0 w' v gb gm go M Mk op A c :=
  ⟨h.b1.grew hg, h.b2.grew hg, h.b3.grew hg, h.b4.grew hg, h.row.grew hg, h.l1, h.l2, h.l3, h.l4, h.gr.trans hg, h.mem⟩
/-- One marked. -/
theorem RchAt.mark {w0 w : World} {v : HV} {gb gm go M : Nat} {Mk : List Int} {op : List (Nat × SX)} {A : Option Addr} {c : Nat} (h : RchAt w0 w v gb gm go M Mk op A c) (i : Nat) : RchAt w0 (w.setCell ⟨M, i, none⟩ (.bool true)) v gb gm go M ((i : Int) :: Mk) op A c := by
  have hk : Kept (fun k => k = M) w (w.setCell ⟨M, i, none⟩ (.bool true)) := (Kept.refl (fun k => k = M) w).setCell (p := ⟨M, i, none⟩) (fun _ => rfl) _
  have n1 : gb ≠ M := fun e => by have h1 := h.b1; rw [e] at h1; exact absurd (h1.ty h.b3).1 (by decide)
  have n2 : gm ≠ M := fun e => by have h1 := h.b2; rw [e] at h1; exact absurd (h1.ty h.b3).1 (by decide)
  have n4 : go ≠ M := fun e => by have h1 := h.b4; rw [e] at h1; exact absurd (h1.ty h.b3).1 (by decide)
  have b3 := h.b3.put i (.bool true)
  rw [List.setIfInBounds_toArray, marksC_set] at b3
  refine ⟨h.b1.kept hk n1, h.b2.kept hk n2, b3, h.b4.kept hk n4, h.row.kept hk (fun g hA e => ?_), h.l1, h.l2, h.l3, h.l4, hk.grew h.gr (fun k e => by subst e; exact h.l3), h.mem⟩
  obtain ⟨cs, hc⟩ := h.row.blkAt (k := g) ⟨_, hA, rfl⟩
  rw [e] at hc
  exact absurd (hc.ty h.b3).1 (by decide)
/-- One more to be looked at. -/
theorem RchAt.push {w0 w w1 : World} {v : HV} {gb gm go M : Nat} {Mk : List Int} {op : List (Nat × SX)} {A A' : Option Addr} {c c' : Nat} (h : RchAt w0 w v gb gm go M Mk op A c) {i : Nat} {x : SX} (hx : v.sl[i]? = some (some x))
    (hr : Row w1 w0.heap.size 84 1 A' (op.length + 1) c' (opV op ++ [.pointer (some ⟨x.p, 0, none⟩)])) (hk : Kept (AtRow A) w w1) : RchAt w0 (w1.setCell ⟨go, 0, none⟩ (.slice A' (op.length + 1) c')) v gb gm go M Mk (op ++ [(i, x)]) A' c' := by
  have hk2 : Kept (fun k => k = go) w1 (w1.setCell ⟨go, 0, none⟩ (.slice A' (op.length + 1) c')) := (Kept.refl (fun k => k = go) w1).setCell (p := ⟨go, 0, none⟩) (fun _ => rfl) _
  have nr : ∀ {k : Nat} {t : TypeId} {cs : Array Value}, Blk w k t cs → t ≠ 84 → ¬ AtRow A k := fun hb ht hk => by
    obtain ⟨ds, hd⟩ := h.row.blkAt hk
    exact ht (hb.ty hd).1
  have n1 : gb ≠ go := fun e => by have h1 := h.b1; rw [e] at h1; exact absurd (h1.ty h.b4).1 (by decide)
  have n2 : gm ≠ go := fun e => by have h1 := h.b2; rw [e] at h1; exact absurd (h1.ty h.b4).1 (by decide)
  have n3 : M ≠ go := fun e => by have h1 := h.b3; rw [e] at h1; exact absurd (h1.ty h.b4).1 (by decide)
  have k1 := h.b1.kept hk (nr h.b1 (by decide))
  have k2 := h.b2.kept hk (nr h.b2 (by decide))
  have k3 := h.b3.kept hk (nr h.b3 (by decide))
  have k4 := h.b4.kept hk (nr h.b4 (by decide))
  have b4 := k4.put 0 (.slice A' (op.length + 1) c')
  simp only [List.setIfInBounds_toArray, List.set_cons_zero] at b4
  refine ⟨k1.kept hk2 n1, k2.kept hk2 n2, k3.kept hk2 n3, ?_, ?_, h.l1, h.l2, h.l3, h.l4, hk2.grew (hk.grew h.gr (fun k hk => Row.at_base h.row k hk)) (fun k e => by subst e; exact h.l4), fun y hy => ?_⟩
  · rw [List.length_append]
    exact b4
  · rw [List.length_append]
    have e : opV (op ++ [(i, x)]) = opV op ++ [.pointer (some ⟨x.p, 0, none⟩)] := by simp [opV]
    rw [e]
    refine Row.kept (n := op.length + 1) hr hk2 (fun g hA e => ?_)
    obtain ⟨cs, hc⟩ := hr.blkAt (k := g) ⟨_, hA, rfl⟩
    rw [e] at hc
    exact absurd (hc.ty k4).1 (by decide)
  · rcases List.mem_append.1 hy with hy | hy
    · exact h.mem y hy
    · obtain rfl := List.mem_singleton.1 hy
      exact hx
theorem opI_snoc (op : List (Nat × SX)) (i : Nat) (x : SX) : opI (op ++ [(i, x)]) = opI op ++ [⟨(i : Int), x.h, x.o⟩] := by simp [opI]
theorem opI_len (op : List (Nat × SX)) : (opI op).length = op.length := by simp [opI]
/-- What the closure leaves. -/
def MarkIn (w0 : World) (v : HV) (gb gm go M : Nat) (Mk : List Int) (op : List (Nat × SX)) (l : List Ob.Val) (w' : World) : Prop :=
  ∃ A' c' Mk' op', RchAt w0 w' v gb gm go M Mk' op' A' c' ∧ (Mk', opI op') = Hp.lookAll (its v.sl) (Mk, opI op) l
/-- What the append's operations give. -/
def MkF (w0 : World) (b0 sg s k p vb : Nat) (Sn Sc : Nat) (A : Option Addr) (n c : Nat) (ys : List Value) (j : Nat) (v : Value) (w : World) : Prop := match j with
  | 0 => v = .slice A n c
  | 1 => v = .pointer (some ⟨sg, 0, none⟩)
  | 2 => v = .pointer (some ⟨sg, 0, none⟩)
  | 3 => v = .pointer (some ⟨sg, 26, none⟩)
  | 4 => v = .slice (some ⟨s, 0, none⟩) Sn Sc
  | 5 => v = .pointer (some ⟨vb, 1, none⟩)
  | 6 => v = .int .i64 (k : Int)
  | 7 => v = .pointer (some ⟨s, k, none⟩)
  | 8 => v = .pointer (some ⟨p, 0, none⟩)
  | 9 => ∃ H, v = .slice (some ⟨H, 0, none⟩) 1 1 ∧ Blk w H 84 #[.pointer (some ⟨p, 0, none⟩)] ∧ b0 ≤ H
  | 10 => ∃ A' c', v = .slice A' (n + 1) c' ∧ Row w w0.heap.size 84 1 A' (n + 1) c' (ys ++ [.pointer (some ⟨p, 0, none⟩)])
  | _ => True
/-- What holds in the append's region. -/
def MkJ (w0 : World) (v : HV) (gb gm go M vb : Nat) (Mk : List Int) (op : List (Nat × SX)) (A : Option Addr) (c : Nat) (u : Ob.Val) (f : Nat → Bool) (w : World) : Prop :=
  (f 10 = false → RchAt w0 w v gb gm go M Mk op A c) ∧ Blk w gb 27 #[.pointer (some ⟨v.g, 0, none⟩)] ∧ Blk w go 93 #[.slice A op.length c] ∧ Blk w vb 41 #[.int .u8 ((u.k : Nat) : Int), .int .i64 u.n, .int .i64 u.l] ∧ Grew w0 w
theorem MkJ.pure {w0 w : World} {v : HV} {gb gm go M vb : Nat} {Mk : List Int} {op : List (Nat × SX)} {A : Option Addr} {c : Nat} {u : Ob.Val} {f : Nat → Bool} (h : MkJ w0 v gb gm go M vb Mk op A c u f w) (k : Nat) (hk : 10 ≠ k) : MkJ w0 v gb gm go M vb Mk op A c u (updF f k) w :=
  ⟨fun hf => h.1 (by unfold updF at hf; rw [if_neg hk] at hf; exact hf), h.2⟩
theorem MkJ.grew {w0 w w' : World} {v : HV} {gb gm go M vb : Nat} {Mk : List Int} {op : List (Nat × SX)} {A : Option Addr} {c : Nat} {u : Ob.Val} {f : Nat → Bool} (h : MkJ w0 v gb gm go M vb Mk op A c u f w) (hg : Grew w w') : MkJ w0 v gb gm go M vb Mk op A c u f w' :=
  ⟨fun hf => (h.1 hf).grew hg, h.2.1.grew hg, h.2.2.1.grew hg, h.2.2.2.1.grew hg, h.2.2.2.2.trans hg⟩
theorem MkJ.app {w0 w w' : World} {v : HV} {gb gm go M vb : Nat} {Mk : List Int} {op : List (Nat × SX)} {A : Option Addr} {c : Nat} {u : Ob.Val} {f : Nat → Bool} (h : MkJ w0 v gb gm go M vb Mk op A c u f w) (hf : f 10 = false) (hk : Kept (AtRow A) w w') : MkJ w0 v gb gm go M vb Mk op A c u (updF f 10) w' := by
  have h0 := h.1 hf
  have nr : ∀ {k : Nat} {t : TypeId} {cs : Array Value}, Blk w k t cs → t ≠ 84 → ¬ AtRow A k := fun hb ht hk => by
    obtain ⟨ds, hd⟩ := h0.row.blkAt hk
    exact ht (hb.ty hd).1
  refine ⟨fun hf => ?_, h.2.1.kept hk (nr h.2.1 (by decide)), h.2.2.1.kept hk (nr h.2.2.1 (by decide)), h.2.2.2.1.kept hk (nr h.2.2.2.1 (by decide)), hk.grew h.2.2.2.2 (fun k hk => Row.at_base h0.row k hk)⟩
  unfold updF at hf
  rw [if_pos rfl] at hf
  cases hf
theorem MkF.stable {w0 : World} {b0 sg s k p vb : Nat} {Sn Sc : Nat} {A : Option Addr} {n c : Nat} {ys : List Value} (hA : ∀ q, AtRow A q → q < b0) (a b : Nat) (v : Value) (w w' : World) (hab : a ≠ b) (h : MkF w0 b0 sg s k p vb Sn Sc A n c ys a v w) (hr : GRo 10 (AtRow A) b w w') : MkF w0 b0 sg s k p vb Sn Sc A n c ys a v w' := by
  unfold MkF at h ⊢
  split at h
  · exact h
  · exact h
  · exact h
  · exact h
  · exact h
  · exact h
  · exact h
  · exact h
  · exact h
  · obtain ⟨H, h1, h2, h3⟩ := h
    exact ⟨H, h1, h2.kept (GRo.zero b w w' hr) (fun hk => by have := hA H hk; omega), h3⟩
  · obtain ⟨A', c', h1, h2⟩ := h
    exact ⟨A', c', h1, h2.grew (hr.off (fun e => hab e.symm))⟩
  · trivial
set_option maxRecDepth 100000 in
set_option maxHeartbeats 8000000 in
theorem mark_c (w0 : World) (v : HV) (B C : Nat) (h0 : MemAt w0 B v) (hv : HvOk v C) (Al : Option Addr) (cl : Nat) (l : List Ob.Val) (hl : ValsAt w0 Al l) (hll : l.length ≤ 1000) (gb gm go M : Nat) (Mk : List Int) (op : List (Nat × SX)) (A : Option Addr) (c : Nat) (w : World) (hs : RchAt w0 w v gb gm go M Mk op A c) (hfew : op.length + Hp.un (its v.sl) Mk ≤ 65536) :
    Calls Tryz.prog 78 #[.slice Al l.length cl, .pointer (some ⟨gb, 0, none⟩), .pointer (some ⟨gm, 0, none⟩), .pointer (some ⟨go, 0, none⟩)] w fun e w' => e = .returned (.tuple #[]) ∧ MarkIn w0 v gb gm go M Mk op l w' := by
  have HM := hid h0
  have HV1 := hid hv
  have HA := hid hl
  have HS := hid hs
  have HFew := hid hfew
  have HL := hid hv.len
  obtain ⟨n, en⟩ : ∃ n, n = l.length := ⟨_, rfl⟩
  rw [← en] at hll ⊢
  have EN := hid en
  have HHas := hid (fun W (hW : Grew w0 W) (i : Int) => has_c v B i W (h0.grew hW) hv.len)
  have HM26 := hid (fun W (hW : Grew w0 W) => hm_cell h0 hW 26 (u := .slice v.S v.sl.length v.cs) rfl)
  have HSl := hid (fun W (hW : Grew w0 W) k y (hy : v.sl[k]? = some y) => slot_at h0 hW hy)
  have hlim : ((v.sl.length : Nat) : Int) ≤ 65536 := by have := hv.len; omega
  clear hs hfew en hl h0 hv
  obtain ⟨N, eN⟩ : ∃ N, N = v.sl.length := ⟨_, rfl⟩
  have ENN := hid eN
  rw [← eN] at hlim HM26
  obtain ⟨sg, esg⟩ : ∃ sg, sg = v.g := ⟨_, rfl⟩
  have ESG := hid esg
  rw [← esg] at HHas HM26
  clear eN esg
  go_enter Tryz.func78, Tryz.ntmps78
  go_wp2_with fail
  go_loopw [6, 9] (fun _ s9 wr => ∃ (i : Nat) (A1 : Option Addr) (c1 : Nat) (Mk1 : List Int) (op1 : List (Nat × SX)), s9 = .int .i64 ((i : Nat) : Int) ∧ i ≤ n ∧ Hid (RchAt w0 wr v gb gm go M Mk1 op1 A1 c1) ∧ Hid ((Mk1, opI op1) = Hp.lookAll (its v.sl) (Mk, opI op) (l.take i))) (fun _ s9 _ => n - (intOf s9).toNat)
  case atStart => exact ⟨0, A, c, Mk, op, rfl, Nat.zero_le _, HS, hid (by simp [Hp.lookAll])⟩
  case round =>
    obtain ⟨i, A1, c1, Mk1, op1, rfl, hi, HR, HLk⟩ := hrel
    by_cases hlt : i < n
    · have f1 : (i : Int) < (n : Int) := by omega
      obtain ⟨ad, u, rfl, hu, q0, q1, q2, hb, huok⟩ := val_at HA.out HR.out.gr (i := i) (by rw [← EN.out]; exact hlt)
      have HTk := hid (show Hp.lookAll (its v.sl) (Mk, opI op) (l.take (i + 1)) = Hp.look (its v.sl) (Mk1, opI op1) u by
        rw [List.take_add_one, hu, Option.toList, Hp.lookAll_snoc, ← HLk.out])
      have HFw := hid (show op1.length + Hp.un (its v.sl) Mk1 ≤ 65536 by
        have h1 := (Hp.lookAll_measure (its v.sl) (l.take i) (Mk, opI op)).2.2
        rw [← HLk.out] at h1
        simp only [opI_len] at h1
        have := HFew.out
        omega)
      clear hu huok
      obtain ⟨uk, un, ul⟩ := u
      simp only at q0 q1 q2 HTk
      have B1 := Blk.new wr 41 #[.int .u8 ((uk : Nat) : Int), .int .i64 un, .int .i64 ul]
      have G1 := (Grew.refl wr).alloc (.cells #[.int .u8 ((uk : Nat) : Int), .int .i64 un, .int .i64 ul] 41)
      go_upto_region 3 with fail
      generalize wr.alloc (.cells #[.int .u8 ((uk : Nat) : Int), .int .i64 un, .int .i64 ul] 41) = w1 at *
      obtain ⟨vb, evb⟩ : ∃ vb, vb = wr.heap.size := ⟨_, rfl⟩
      rw [← evb] at B1 ⊢
      have HB1 := hid B1
      have HR1 := hid (HR.out.grew G1)
      clear B1 G1 q0 q1 q2 hb evb
      have p0 := HB1.out.cell 0
      have p1 := HB1.out.cell 1
      have pl := HB1.out.lt
      simp only [List.getElem?_toArray, List.getElem?_cons_zero, List.getElem?_cons_succ] at p0 p1
      have r0 := HR1.out.b1.cell 0
      have rl := HR1.out.b1.lt
      simp only [List.getElem?_toArray, List.getElem?_cons_zero] at r0
      rw [← ESG.out] at r0
      by_cases hk4 : uk = 4
      · subst hk4
        have hcall := HHas.out w1 HR1.out.gr un
        rcases hasB_cases v.sl un with hh | ⟨k, rfl, hh⟩ | ⟨k, x, rfl, hh⟩
        · rw [hasB_out hh] at hcall
          have HLo := hid (show Hp.look (its v.sl) (Mk1, opI op1) ⟨4, un, ul⟩ = (Mk1, opI op1) from Hp.look_no (.inr (.inl (by
            have h1 := hasB_find (l := v.sl) (i := un)
            rw [hasB_out hh] at h1
            simpa using h1.symm))))
          clear hh
          go_wp2_with (go_at_call 45; refine hcall.mono ?_; rintro e w2 ⟨rfl, hg2⟩)
          go_round
          case rel => exact ⟨i + 1, A1, c1, Mk1, op1, by go_num, by omega, hid (HR1.out.grew hg2), hid (by rw [HTk.out, HLo.out])⟩
          case measure => simp [intOf]; omega
        · rw [hasB_no hh] at hcall
          have HLo := hid (show Hp.look (its v.sl) (Mk1, opI op1) ⟨4, (k : Int), ul⟩ = (Mk1, opI op1) from Hp.look_no (.inr (.inl (by
            have h1 := hasB_find (l := v.sl) (i := (k : Int))
            rw [hasB_no hh] at h1
            simpa using h1.symm))))
          clear hh
          go_wp2_with (go_at_call 45; refine hcall.mono ?_; rintro e w2 ⟨rfl, hg2⟩)
          go_round
          case rel => exact ⟨i + 1, A1, c1, Mk1, op1, by go_num, by omega, hid (HR1.out.grew hg2), hid (by rw [HTk.out, HLo.out])⟩
          case measure => simp [intOf]; omega
        · rw [hasB_at hh] at hcall
          have hkN : k < N := by rw [ENN.out]; exact (List.getElem?_eq_some_iff.1 hh).1
          have fk : (k : Int) < (N : Int) := by omega
          have HHx := hid hh
          have HFd := hid (its_find hh)
          clear hh
          have HCl : Hid (∀ W, RchAt w0 W v gb gm go M Mk1 op1 A1 c1 → W.cell? ⟨gm, 0, none⟩ = some (.slice (some ⟨M, 0, none⟩) N N) ∧ gm < W.heap.size ∧ W.cell? ⟨M, k, none⟩ = some (.bool (decide ((k : Int) ∈ Mk1))) ∧ M < W.heap.size ∧ (∀ j, W.frozen? ⟨M, j, none⟩ = false)) := hid (fun W h => by
            have h1 := h.b2.cell 0
            simp only [List.getElem?_toArray, List.getElem?_cons_zero] at h1
            have h2 := h.b3.cell k
            rw [List.getElem?_toArray, marksC_get _ _ (by rw [← ENN.out]; exact hkN)] at h2
            rw [← ENN.out] at h1
            exact ⟨h1, h.b2.lt, h2, h.b3.lt, h.b3.frozen⟩)
          by_cases hmk : (k : Int) ∈ Mk1
          · have HLo := hid (show Hp.look (its v.sl) (Mk1, opI op1) ⟨4, (k : Int), ul⟩ = (Mk1, opI op1) from Hp.look_no (.inr (.inr hmk)))
            rw [decide_eq_true hmk] at HCl
            clear hmk
            go_wp2_with (go_at_call 45; refine hcall.mono ?_; rintro e w2 ⟨rfl, hg2⟩; have HR2 := hid (HR1.out.grew hg2); have HB2 := hid (HB1.out.grew hg2); obtain ⟨m0, ml, m1, m2, -⟩ := HCl.out w2 HR2.out; clear p0 p1 pl r0 rl; have p1 := HB2.out.cell 1; have pl := HB2.out.lt; simp only [List.getElem?_toArray, List.getElem?_cons_zero, List.getElem?_cons_succ] at p1)
            go_round
            case rel => exact ⟨i + 1, A1, c1, Mk1, op1, by go_num, by omega, HR2, hid (by rw [HTk.out, HLo.out])⟩
            case measure => simp [intOf]; omega
          · have HLo := hid (show Hp.look (its v.sl) (Mk1, opI op1) ⟨4, (k : Int), ul⟩ = ((k : Int) :: Mk1, opI (op1 ++ [(k, x)])) by rw [opI_snoc]; exact Hp.look_yes rfl HFd.out hmk)
            have HUn := hid (show op1.length + 1 ≤ 65536 by
              have h1 := Hp.un_cons (L := its v.sl) (M := Mk1) (x := ⟨(k : Int), x.h, x.o⟩) (mem_its.2 ⟨k, x, HHx.out, rfl⟩) hmk
              have := HFw.out
              omega)
            rw [decide_eq_false hmk] at HCl
            clear hmk
            go_upto_region 5 with (go_at_call 45; refine hcall.mono ?_; rintro e w2 ⟨rfl, hg2⟩; have HR2 := hid (HR1.out.grew hg2); have HB2 := hid (HB1.out.grew hg2); obtain ⟨m0, ml, m1, m2, m3⟩ := HCl.out w2 HR2.out; clear p0 p1 pl r0 rl; have p1 := HB2.out.cell 1; have pl := HB2.out.lt; simp only [List.getElem?_toArray, List.getElem?_cons_zero, List.getElem?_cons_succ] at p1)
            have HR3 := hid (HR2.out.mark k)
            have HB3 := hid (HB2.out.far (p := ⟨M, k, none⟩) (show vb ≠ M by
              intro e
              have h1 := HB2.out
              rw [e] at h1
              exact absurd (h1.ty HR2.out.b3).1 (by decide)) (.bool true))
            clear m0 ml m1 m2 m3 p1 pl HR1 HB1 HCl HR2 HB2 hcall hg2
            generalize w2.setCell ⟨M, k, none⟩ (.bool true) = w3 at *
            obtain ⟨s, eS, -⟩ := slot_at HM.out (Grew.refl w0) HHx.out
            have HSk : Hid (∀ W, Grew w0 W → W.cell? ⟨s, k, none⟩ = some (.pointer (some ⟨x.p, 0, none⟩)) ∧ s < W.heap.size) := hid (fun W hW => by
              obtain ⟨s', h1, h2, h3, h4⟩ := slot_at HM.out hW HHx.out
              rw [eS] at h1
              cases h1
              exact ⟨h2, h4⟩)
            rw [eS] at HM26
            obtain ⟨p, ep⟩ : ∃ p, p = x.p := ⟨_, rfl⟩
            rw [← ep] at HSk
            have EP := hid ep
            obtain ⟨on, eon⟩ : ∃ on, on = op1.length := ⟨_, rfl⟩
            have EON := hid eon
            have hon : on + 1 ≤ 65536 := by have := HUn.out; omega
            clear ep eon eS HSl HHas
            have hAl : ∀ q, AtRow A1 q → q < w3.heap.size := fun q hq => Row.at_lt HR3.out.row q hq
            have HJ0 := hid (show MkJ w0 v gb gm go M vb ((k : Int) :: Mk1) op1 A1 c1 ⟨4, (k : Int), ul⟩ (fun _ => false) w3 from ⟨fun _ => HR3.out, HR3.out.b1, HR3.out.b4, HB3.out, HR3.out.gr⟩)
            refine wp_region_facts4 (w0 := w3) w3 11 11 [34, 35, 36, 37, 38, 39, 40, 41, 42, 43, 44] [] (MkF w0 w3.heap.size sg s k p vb N v.cs A1 on c1 (opV op1)) (Kept (AtRow A1)) (GRo 10 (AtRow A1)) (MkJ w0 v gb gm go M vb ((k : Int) :: Mk1) op1 A1 c1 ⟨4, (k : Int), ul⟩) (May.kept _) GRo.zero GRo.refl (by kernel_rfl) (by kernel_rfl) (Kept.refl _ _).drew (HJ0.out.grew (Grew.refl _).drew) (fun a b v w w' _ _ hab _ h hr => MkF.stable hAl a b v w w' hab h hr) ?_ ?_
            · repeat' (first | exact trivial | apply And.intro)
              all_goals
                intro a w' fl hgw hJ hfi hdep hs hA
                have t1 := hs.eval 1 (by decide) (v := .pointer (some ⟨gb, 0, none⟩)) rfl
                have t3 := hs.eval 3 (by decide) (v := .pointer (some ⟨go, 0, none⟩)) rfl
                have t6 := hs.eval 6 (by decide) (v := .pointer (some ⟨vb, 0, none⟩)) rfl
                have HJ1 := hid hJ
                have HFi := hid hfi
                have HGW := hid hgw
                clear hs hgw hJ hfi hdep
                simp only [Ahead, Region.binds, slotOf, MkF, List.getD_cons_succ, List.getD_cons_zero, forall_const, and_true] at hA
                simp only [wantedD, if_true]
                unfold Oper.wp
                have ec : ∀ v, a.eval (.const v) = v := fun _ => rfl
                generalize hfe : a.eval = fe at *
                have ef : ∀ k, fe (.func k) = Act.eval ⟨#[], []⟩ (.func k) := fun k => by rw [← hfe]; rfl
                clear hfe
              · have x0 := HJ1.out.2.2.1.cell 0
                have xl := HJ1.out.2.2.1.lt
                simp only [List.getElem?_toArray, List.getElem?_cons_zero] at x0
                rw [← EON.out] at x0
                go_simp
                exact Gives3.of rfl (GRo.refl 0 _) rfl (HJ1.out.pure 0 (by decide))
              · have x0 := HJ1.out.2.1.cell 0
                have xl := HJ1.out.2.1.lt
                simp only [List.getElem?_toArray, List.getElem?_cons_zero] at x0
                rw [← ESG.out] at x0
                go_simp
                exact Gives3.of rfl (GRo.refl 1 _) rfl (HJ1.out.pure 1 (by decide))
              · go_simp
                exact Gives3.of rfl (GRo.refl 2 _) rfl (HJ1.out.pure 2 (by decide))
              · go_simp
                exact Gives3.of rfl (GRo.refl 3 _) rfl (HJ1.out.pure 3 (by decide))
              · obtain ⟨x0, xl⟩ := HM26.out w' HJ1.out.2.2.2.2
                go_simp
                exact Gives3.of rfl (GRo.refl 4 _) rfl (HJ1.out.pure 4 (by decide))
              · go_simp
                exact Gives3.of rfl (GRo.refl 5 _) rfl (HJ1.out.pure 5 (by decide))
              · have x0 := HJ1.out.2.2.2.1.cell 1
                have xl := HJ1.out.2.2.2.1.lt
                simp only [List.getElem?_toArray, List.getElem?_cons_zero, List.getElem?_cons_succ] at x0
                go_simp
                exact Gives3.of rfl (GRo.refl 6 _) rfl (HJ1.out.pure 6 (by decide))
              · go_simp
                exact Gives3.of rfl (GRo.refl 7 _) rfl (HJ1.out.pure 7 (by decide))
              · obtain ⟨x0, xl⟩ := HSk.out w' HJ1.out.2.2.2.2
                go_simp
                exact Gives3.of rfl (GRo.refl 8 _) rfl (HJ1.out.pure 8 (by decide))
              · have hgn : Grew w' (w'.alloc (.cells #[.pointer (some ⟨p, 0, none⟩)] 84)) := (Grew.refl w').alloc _
                have hbn := Blk.new w' 84 #[.pointer (some ⟨p, 0, none⟩)]
                have HGn := hid hgn
                have HBn := hid hbn
                clear hgn hbn
                go_simp
                exact Gives3.of rfl (GRo.grew (j := 9) HGn.out) ⟨w'.heap.size, rfl, HBn.out, HGW.out.size⟩ ((HJ1.out.grew HGn.out).pure 9 (by decide))
              · obtain ⟨hv1, H, hv2, hbn, hH⟩ := hA
                have hown := (HJ1.out.1 HFi.out).row
                rw [← EON.out] at hown
                obtain ⟨A3, c3, w2', hrun, r1, r2, r3⟩ := run_catR (P := Tryz.prog) 93 93 84 (.pointer none) 1 8 Tryz.underlying93 ptr_info rfl (by decide) w' w0.heap.size HJ1.out.2.2.2.2.below.size A1 on c1 (opV op1) hown (some ⟨H, 0, none⟩) 1 1 [.pointer (some ⟨p, 0, none⟩)] rfl (by intro u hu; simp only [List.mem_singleton] at hu; rw [hu]; rfl) (by intro h; cases h) (blk_row hbn) (by omega) (by omega)
                have HR1' := hid r1
                have HR2' := hid r2
                clear hown hbn r1 r2 r3
                simp only [execOp, resolve, invoke, builtin, Sem.run_bind, Sem.run_pure, Result.andThen_ok, List.map_toArray, List.map_cons, List.map_nil, hv1, hv2, hrun]
                exact Gives3.of rfl (GRo.at HR2'.out) ⟨A3, c3, rfl, HR1'.out⟩ (HJ1.out.app HFi.out HR2'.out)
            · intro a2 w4 hgw hs hf hJ _
              have h10 := hf 10 (by decide)
              simp only [slotOf, MkF, List.getD_cons_succ, List.getD_cons_zero] at h10
              obtain ⟨A3, c3, hv10, hrow⟩ := h10
              obtain ⟨fn, rfl, hft⟩ := hs.put
              rw [hft] at hv10
              have HRow := hid hrow
              have HKr := hid hgw
              have x0 := hJ.2.2.1.cell 0
              have xf := hJ.2.2.1.frozen 0
              have xl := hJ.2.2.1.lt
              simp only [List.getElem?_toArray, List.getElem?_cons_zero] at x0
              clear hf hft hs hJ hrow hgw
              simp only [List.drop_succ_cons, List.drop_zero, putAll, List.foldl_cons, List.foldl_nil, Act.put, List.setIfInBounds_toArray, List.set_cons_succ, List.set_cons_zero, hv10]
              clear hv10
              go_wp2_with fail
              have hfin := HR3.out.push HHx.out (A' := A3) (c' := c3) (w1 := w4) (by rw [← EON.out, ← EP.out]; exact HRow.out) HKr.out
              rw [← EON.out] at hfin
              have HFin := hid hfin
              go_round
              case rel => exact ⟨i + 1, A3, c3, (k : Int) :: Mk1, op1 ++ [(k, x)], by go_num, by omega, HFin, hid (by rw [HTk.out, HLo.out])⟩
              case measure => simp [intOf]; omega
      · have f4 : (((uk : Nat) : Int) == 4) = false := by rw [beq_eq_false_iff_ne]; omega
        have HLo := hid (show Hp.look (its v.sl) (Mk1, opI op1) ⟨uk, un, ul⟩ = (Mk1, opI op1) from Hp.look_no (.inl hk4))
        go_wp2_with fail
        go_round
        case rel => exact ⟨i + 1, A1, c1, Mk1, op1, by go_num, by omega, HR1, hid (by rw [HTk.out, HLo.out])⟩
        case measure => simp [intOf]; omega
    · have hin : i = n := by omega
      subst hin
      go_wp2_with fail
      refine bodyPost_end (results_none rfl _ _ _) rfl ?_
      refine ⟨rfl, A1, c1, Mk1, op1, HR.out, ?_⟩
      rw [HLk.out, EN.out, List.take_length]
end Go.Proofs.YtidnaednldcdfaaGreatDoor
namespace Go.Proofs.YtidnaednldcdfaaGreatDoor
open Go.RowKit

/-- The least number of those that a test holds of. -/
theorem least_of {P : Nat → Prop} (h : ∃ m, P m) : ∃ m, P m ∧ ∀ k, P k → m ≤ k := by
  obtain ⟨m, hm⟩ := h
  induction m using Nat.strongRecOn with
  | ind m ih =>
    by_cases hk : ∃ k, k < m ∧ P k
    · obtain ⟨k, h1, h2⟩ := hk
      exact ih k h1 h2
    · exact ⟨m, hm, fun k hp => by
        rcases Nat.lt_or_ge k m with h1 | h1
        · exact absurd ⟨k, h1, hp⟩ hk
        · exact h1⟩
open Classical in
noncomputable def mu (P : Nat → Prop) : Nat := if h : ∃ m, P m then Classical.choose (least_of h) else 0
theorem mu_spec {P : Nat → Prop} (h : ∃ m, P m) : P (mu P) := by
  unfold mu
  rw [dif_pos h]
  exact (Classical.choose_spec (least_of h)).1
theorem mu_le {P : Nat → Prop} {m : Nat} (h : P m) : mu P ≤ m := by
  unfold mu
  rw [dif_pos ⟨m, h⟩]
  exact (Classical.choose_spec (least_of ⟨m, h⟩)).2 m h
theorem bool_info : (Tryz.prog.info? 4).map (fun i => (i.zero, i.size, i.bytes)) = some (some (.bool false), 1, 1) := by kernel_rfl
theorem make_bools (n : Nat) (hn : n ≤ 1000000) (W : World) : (Instr.makeSlice 103 (.int .i64 ((n : Nat) : Int)) (.int .i64 ((n : Nat) : Int))).run Tryz.prog W = .ok (.slice (some ⟨W.heap.size, 0, none⟩) n n) (W.alloc (.cells (marksC n []).toArray 4)) := by
  obtain ⟨i, hi, hz0, hz1, hz2⟩ := info_parts bool_info
  have hr := run_make (P := Tryz.prog) W 103 4 i _ Tryz.underlying103 hi hz0 .i64 .i64 n n (by omega) (by omega) (by rw [hz2]; omega) (by omega)
  rw [hr]
  have e1 : madeCells (Value.bool false).cells ((n : Int).toNat * i.size) = (marksC n []).toArray := by
    apply Array.toList_inj.1
    rw [hz1, Int.toNat_natCast, Nat.mul_one]
    show (madeCells #[Value.bool false] n).toList = _
    rw [toList_madeCells_one]
    simp only [marksC, List.not_mem_nil, decide_false]
    rw [List.map_const', List.length_range]
  rw [e1]
  simp
/-- Lists of values in a slice. -/
structure LV where
  A : Option Addr
  c : Nat
  l : List Ob.Val
def lvF (x : LV) : List Value := [.slice x.A x.l.length x.c]
theorem lvF_len (x : LV) : (lvF x).length = 1 := rfl
structure ListsAt (w : World) (A : Option Addr) (l : List LV) : Prop where
  ok : ∀ x ∈ l, ValsAt w x.A x.l
  cells : 0 < l.length → ∃ ad, A = some ad ∧ ad.block < w.heap.size ∧ CellsAt 1 lvF w ad l
theorem ListsAt.grew {w w' : World} {A : Option Addr} {l : List LV} (h : ListsAt w A l) (hg : Grew w w') : ListsAt w' A l := ⟨fun x hx => (h.ok x hx).grew hg, fun hl => by
  obtain ⟨ad, h1, h2, h3⟩ := h.cells hl
  exact ⟨ad, h1, Nat.lt_of_lt_of_le h2 hg.below.size, h3.kept (F := fun _ => False) (.of_grew hg) h2 (fun h => h)⟩⟩
theorem list_at {w wr : World} {A : Option Addr} {l : List LV} (h : ListsAt w A l) (hg : Grew w wr) {i : Nat} (hi : i < l.length) : ∃ ad x, A = some ad ∧ l[i]? = some x ∧ wr.cell? (ad.add i) = some (.slice x.A x.l.length x.c) ∧ ad.block < wr.heap.size ∧ ValsAt w x.A x.l := by
  obtain ⟨ad, e, hb, hc⟩ := h.cells (by omega)
  have hv := List.getElem?_eq_getElem hi
  refine ⟨ad, l[i], e, hv, ?_, Nat.lt_of_lt_of_le hb hg.below.size, h.ok _ (List.getElem_mem hi)⟩
  rw [hg.below.cell (by rw [block_add]; exact hb)]
  have := hc i _ hv 0 _ rfl
  simpa using this
def flat (l : List LV) : List Ob.Val := l.flatMap (·.l)
theorem Row.cut1 {w : World} {B : Nat} {e : TypeId} {A : Option Addr} {n c m : Nat} {vs us : List Value} (h : Row w B e 1 A n c (vs ++ us)) (hm : vs.length = m) : Row w B e 1 A m c vs := by
  have hlen := h.1
  simp only [List.length_append, Nat.mul_one] at hlen
  refine ⟨by omega, ?_⟩
  rcases h.2 with ⟨h1, h2⟩ | ⟨g, cap, cur, hv, hb, hh, hnc, hcm, hs, ht⟩
  · simp only [Value.slice.injEq] at h1
    obtain ⟨rfl, rfl, rfl⟩ := h1
    exact .inl ⟨by rw [show m = 0 by omega], by omega⟩
  · simp only [Value.slice.injEq] at hv
    obtain ⟨rfl, _, rfl⟩ := hv
    refine .inr ⟨g, c, cur, rfl, hb, hh, by omega, hcm, hs, ?_⟩
    have h2 := congrArg (List.take m) ht
    rw [List.take_take, List.take_left' hm] at h2
    rw [Nat.mul_one]
    rwa [Nat.min_eq_left (by omega)] at h2
theorem opV_len (op : List (Nat × SX)) : (opV op).length = op.length := by simp [opV]
/-- The last one taken off. -/
theorem RchAt.pop {w0 w : World} {v : HV} {gb gm go M : Nat} {Mk : List Int} {op : List (Nat × SX)} {y : Nat × SX} {A : Option Addr} {c : Nat} (h : RchAt w0 w v gb gm go M Mk (op ++ [y]) A c) : RchAt w0 (w.setCell ⟨go, 0, none⟩ (.slice A op.length c)) v gb gm go M Mk op A c := by
  have hk : Kept (fun k => k = go) w (w.setCell ⟨go, 0, none⟩ (.slice A op.length c)) := (Kept.refl (fun k => k = go) w).setCell (p := ⟨go, 0, none⟩) (fun _ => rfl) _
  have n1 : gb ≠ go := fun e => by have h1 := h.b1; rw [e] at h1; exact absurd (h1.ty h.b4).1 (by decide)
  have n2 : gm ≠ go := fun e => by have h1 := h.b2; rw [e] at h1; exact absurd (h1.ty h.b4).1 (by decide)
  have n3 : M ≠ go := fun e => by have h1 := h.b3; rw [e] at h1; exact absurd (h1.ty h.b4).1 (by decide)
  have b4 := h.b4.put 0 (.slice A op.length c)
  simp only [List.setIfInBounds_toArray, List.set_cons_zero] at b4
  have hr := h.row
  rw [show opV (op ++ [y]) = opV op ++ [.pointer (some ⟨y.2.p, 0, none⟩)] by simp [opV]] at hr
  have hr2 := hr.cut1 (opV_len op)
  refine ⟨h.b1.kept hk n1, h.b2.kept hk n2, h.b3.kept hk n3, b4, hr2.kept hk (fun g hA e => ?_), h.l1, h.l2, h.l3, h.l4, hk.grew h.gr (fun k e => by subst e; exact h.l4), fun z hz => h.mem z (List.mem_append_left _ hz)⟩
  obtain ⟨cs, hc⟩ := hr2.blkAt (k := g) ⟨_, hA, rfl⟩
  rw [e] at hc
  exact absurd (hc.ty h.b4).1 (by decide)
/-- The last one. -/
theorem RchAt.last {w0 w : World} {v : HV} {gb gm go M : Nat} {Mk : List Int} {op : List (Nat × SX)} {y : Nat × SX} {A : Option Addr} {c : Nat} (h : RchAt w0 w v gb gm go M Mk (op ++ [y]) A c) : ∃ q, A = some ⟨q, 0, none⟩ ∧ w.cell? ⟨q, op.length, none⟩ = some (.pointer (some ⟨y.2.p, 0, none⟩)) ∧ q < w.heap.size := by
  rcases h.row.cases with ⟨_, _, _, ⟨_, h2, _⟩ | ⟨g, h1, _, hw, hc, _⟩⟩
  · simp at h2
  · refine ⟨g, h1, hc _ _ ?_, hw⟩
    rw [show opV (op ++ [y]) = opV op ++ [.pointer (some ⟨y.2.p, 0, none⟩)] by simp [opV], List.getElem?_append_right (by rw [opV_len]; exact Nat.le_refl _), opV_len, Nat.sub_self]
    rfl
/-- What is known between two rounds. -/
def RchM (w0 : World) (v : HV) (gb gm go M : Nat) (rs : List Ob.Val) (w : World) (m : Nat) : Prop :=
  ∃ A c Mk op, RchAt w0 w v gb gm go M Mk op A c ∧ Hp.LookInv (its v.sl) rs (fun _ => False) (Mk, opI op) ∧ m = 2 * Hp.un (its v.sl) Mk + op.length
/-- What 'reached' answers. -/
def ReachedV (w : World) (v : HV) (rs : List Ob.Val) (e : Ending) (w' : World) : Prop :=
  ∃ (M : Nat) (Mk : List Int), e = .returned (.slice (some ⟨M, 0, none⟩) v.sl.length v.sl.length) ∧ w.heap.size ≤ M ∧ Blk w' M 4 (marksC v.sl.length Mk).toArray ∧ (∀ i, i ∈ Mk ↔ Hp.Reach (its v.sl) rs i) ∧ Grew w w'
set_option maxRecDepth 100000 in
set_option maxHeartbeats 8000000 in
theorem reached_c (v : HV) (B C : Nat) (A : Option Addr) (c : Nat) (rs : List LV) (w : World) (h : MemAt w B v) (hv : HvOk v C) (hr : ListsAt w A rs) (hrl : rs.length ≤ 1000) (hrx : ∀ x ∈ rs, x.l.length ≤ 1000) :
    Calls Tryz.prog 44 #[.pointer (some ⟨v.g, 0, none⟩), .slice A rs.length c] w (ReachedV w v (flat rs)) := by
  have HM := hid h
  have HV1 := hid hv
  have HA := hid hr
  have HRx := hid hrx
  obtain ⟨q26, q26l⟩ := hm_cell h (Grew.refl w) 26 (u := .slice v.S v.sl.length v.cs) rfl
  have hlen : ((v.sl.length : Nat) : Int) ≤ 65536 := by have := hv.len; omega
  have hmk := fun W => make_bools v.sl.length (by have := hv.len; omega) W
  obtain ⟨rn, ern⟩ : ∃ rn, rn = rs.length := ⟨_, rfl⟩
  rw [← ern] at hrl ⊢
  have ERN := hid ern
  clear h hv hr hrx ern
  obtain ⟨sg, esg⟩ : ∃ sg, sg = v.g := ⟨_, rfl⟩
  rw [← esg] at q26 q26l ⊢
  have ESG := hid esg
  obtain ⟨N, eN⟩ : ∃ N, N = v.sl.length := ⟨_, rfl⟩
  rw [← eN] at q26 hlen hmk
  have ENN := hid eN
  clear esg eN
  obtain ⟨gb, egb⟩ : ∃ gb, gb = w.heap.size := ⟨_, rfl⟩
  have B1 := Blk.new w 27 #[.pointer (some ⟨sg, 0, none⟩)]
  have G1 := (Grew.refl w).alloc (.cells #[.pointer (some ⟨sg, 0, none⟩)] 27)
  go_enter Tryz.func44, Tryz.ntmps44
  go_upto_region 1 with fail
  generalize w.alloc (.cells #[.pointer (some ⟨sg, 0, none⟩)] 27) = w1 at *
  rw [← egb] at B1 ⊢
  have q26' := (G1.below.cell (p := ⟨sg, 26, none⟩) q26l).trans q26
  have q26l' := Nat.lt_of_lt_of_le q26l G1.below.size
  have b0 := B1.cell 0
  have bl := B1.lt
  simp only [List.getElem?_toArray, List.getElem?_cons_zero] at b0
  have HB1 := hid B1
  have HG1 := hid G1
  have EGB := hid egb
  clear q26 q26l B1 G1 egb
  go_upto_region 2 with fail
  clear q26' q26l' b0 bl hmk
  go_upto_region 3 with fail
  have hs1 : (w1.alloc (.cells (marksC N []).toArray 4)).heap.size = w1.heap.size + 1 := World.size_alloc _ _
  have hs2 : ((w1.alloc (.cells (marksC N []).toArray 4)).alloc (.cells #[.slice (some ⟨w1.heap.size, 0, none⟩) N N] 103)).heap.size = w1.heap.size + 1 + 1 := by rw [World.size_alloc, hs1]
  have hR0 : RchAt w (((w1.alloc (.cells (marksC N []).toArray 4)).alloc (.cells #[.slice (some ⟨w1.heap.size, 0, none⟩) N N] 103)).alloc (.cells #[.slice none 0 0] 93)) v gb (w1.heap.size + 1) (w1.heap.size + 1 + 1) w1.heap.size [] [] none 0 := by
    have g1 := (Grew.refl w1).alloc (.cells (marksC N []).toArray 4)
    have g2 := (Grew.refl _).alloc (a := w1.alloc (.cells (marksC N []).toArray 4)) (.cells #[.slice (some ⟨w1.heap.size, 0, none⟩) N N] 103)
    have g3 := (Grew.refl _).alloc (a := (w1.alloc (.cells (marksC N []).toArray 4)).alloc (.cells #[.slice (some ⟨w1.heap.size, 0, none⟩) N N] 103)) (.cells #[.slice none 0 0] 93)
    have k1 := Blk.new w1 4 (marksC N []).toArray
    have k2 := Blk.new (w1.alloc (.cells (marksC N []).toArray 4)) 103 #[.slice (some ⟨w1.heap.size, 0, none⟩) N N]
    have k3 := Blk.new ((w1.alloc (.cells (marksC N []).toArray 4)).alloc (.cells #[.slice (some ⟨w1.heap.size, 0, none⟩) N N] 103)) 93 #[.slice none 0 0]
    rw [hs1] at k2
    rw [hs2] at k3
    have hw1 := HG1.out.below.size
    refine ⟨((HB1.out.grew g1).grew g2).grew g3 |> fun b => ?_, ?_, ?_, k3, Row.nil _ _ _ _, ?_, ?_, hw1, ?_, ((HG1.out.trans g1).trans g2).trans g3, by simp⟩
    · rw [← ESG.out]; exact b
    · rw [← ENN.out]; exact k2.grew g3
    · rw [← ENN.out]; exact (k1.grew g2).grew g3
    · rw [EGB.out]; exact Nat.le_refl _
    · omega
    · omega
  generalize w1.heap.size + 1 + 1 = go at *
  generalize w1.heap.size + 1 = gm at *
  generalize hM : w1.heap.size = M at *
  have HR0 := hid hR0
  clear hs1 hs2 hR0 hM
  generalize ((w1.alloc (.cells (marksC N []).toArray 4)).alloc (.cells #[.slice (some ⟨M, 0, none⟩) N N] 103)).alloc (.cells #[.slice none 0 0] 93) = w4 at *
  have HMk := hid (fun (Al : Option Addr) (cl : Nat) (l : List Ob.Val) (hl : ValsAt w Al l) (hll : l.length ≤ 1000) (Mk : List Int) (op : List (Nat × SX)) (A : Option Addr) (c : Nat) (W : World) (hs : RchAt w W v gb gm go M Mk op A c) (hfew : op.length + Hp.un (its v.sl) Mk ≤ 65536) => mark_c w v B C HM.out HV1.out Al cl l hl hll gb gm go M Mk op A c W hs hfew)
  clear HB1 HG1 EGB
  go_wp2_with fail
  go_loopw [9, 20] (fun _ s20 wr => ∃ (i : Nat) (A1 : Option Addr) (c1 : Nat) (Mk : List Int) (op : List (Nat × SX)), s20 = .int .i64 ((i : Nat) : Int) ∧ i ≤ rn ∧ Hid (RchAt w wr v gb gm go M Mk op A1 c1) ∧ Hid ((Mk, opI op) = Hp.lookAll (its v.sl) ([], []) (flat (rs.take i)))) (fun _ s20 _ => rn - (intOf s20).toNat)
  case atStart => exact ⟨0, none, 0, [], [], rfl, Nat.zero_le _, HR0, hid (by simp [flat, Hp.lookAll, opI])⟩
  case round =>
    obtain ⟨i, A1, c1, Mk, op, rfl, hi, HR, HLk⟩ := hrel
    by_cases hlt : i < rn
    · have f1 : (i : Int) < (rn : Int) := by omega
      obtain ⟨ad, x, rfl, hx, q0, hb, hvx⟩ := list_at HA.out HR.out.gr (i := i) (by rw [← ERN.out]; exact hlt)
      have hxm := List.mem_of_getElem? hx
      have HTk := hid (show Hp.lookAll (its v.sl) ([], []) (flat (rs.take (i + 1))) = Hp.lookAll (its v.sl) (Mk, opI op) x.l by
        rw [List.take_add_one, hx, Option.toList, flat, List.flatMap_append, Hp.lookAll_app]
        rw [HLk.out]
        simp [flat])
      have hfew : op.length + Hp.un (its v.sl) Mk ≤ 65536 := by
        have h1 := (Hp.lookAll_measure (its v.sl) (flat (rs.take i)) ([], [])).2.2
        rw [← HLk.out, Hp.un_nil] at h1
        simp only [opI_len, List.length_nil] at h1
        have := HV1.out.small
        omega
      have hcall := HMk.out x.A x.c x.l hvx (HRx.out x hxm) Mk op A1 c1 wr HR.out hfew
      unfold MarkIn at hcall
      clear hx hvx hxm hfew
      obtain ⟨xA, xc, xl⟩ := x
      simp only at q0 hcall HTk
      go_wp2_with (go_at_call 78; refine hcall.mono ?_; rintro e w5 ⟨rfl, A5, c5, Mk5, op5, hr5, hl5⟩; have HR5 := hid hr5; have HL5 := hid hl5; clear hr5 hl5)
      go_round
      case rel => exact ⟨i + 1, A5, c5, Mk5, op5, by go_num, by omega, HR5, hid (by rw [HTk.out, HL5.out])⟩
      case measure => simp [intOf]; omega
    · have f1 : ¬ (i : Int) < (rn : Int) := by omega
      have HI := hid (show Hp.LookInv (its v.sl) (flat rs) (fun _ => False) (Mk, opI op) by
        rw [HLk.out, show i = rs.length by rw [← ERN.out]; omega, List.take_length]
        exact Hp.LookInv.roots (its_sorted _) _)
      clear HLk
      go_wp2_with fail
      clear f1
      go_loopw [10] (fun _ wr => ∃ m, RchM w v gb gm go M (flat rs) wr m) (fun _ wr => mu (RchM w v gb gm go M (flat rs) wr))
      case atStart => exact ⟨_, A1, c1, Mk, op, HR.out, HI.out, rfl⟩
      case round =>
        have hsp := mu_spec hrel
        obtain ⟨A2, c2, Mk2, op2, hR2, hI2, hm⟩ := hsp
        have HR2 := hid hR2
        have HI2 := hid hI2
        have HMu := hid hm
        clear hR2 hI2 hm hrel
        have x0 := HR2.out.b4.cell 0
        have xl := HR2.out.b4.lt
        have xf := HR2.out.b4.frozen 0
        simp only [List.getElem?_toArray, List.getElem?_cons_zero] at x0
        rcases List.eq_nil_or_concat op2 with h0 | ⟨op3, y, h3⟩
        · subst h0
          have y0 := HR2.out.b2.cell 0
          have yl := HR2.out.b2.lt
          simp only [List.getElem?_toArray, List.getElem?_cons_zero] at y0
          simp only [List.length_nil] at x0
          go_wp2_with fail
          go_ret
          exact ⟨M, Mk2, rfl, HR2.out.l3, HR2.out.b3, fun i => HI2.out.final i, HR2.out.gr⟩
        · rw [List.concat_eq_append] at h3
          subst h3
          obtain ⟨q, rfl, hq, hql⟩ := HR2.out.last
          obtain ⟨on, eon⟩ : ∃ on, on = op3.length := ⟨_, rfl⟩
          have EON := hid eon
          rw [List.length_append, List.length_singleton, ← eon] at x0
          rw [← eon] at hq
          have hon : (on : Int) + 1 ≤ 65537 := by
            have h1 := HI2.out.few
            have h2 := HV1.out.small
            simp only [opI_len, List.length_append, List.length_singleton] at h1
            omega
          obtain ⟨L1, eL⟩ : ∃ L1, L1 = on + 1 := ⟨_, rfl⟩
          rw [← eL] at x0
          have hwr : IntKind.i64.wrap ((L1 : Int) - 1) = (on : Int) := by rw [wrap64 (by omega) (by omega)]; omega
          have hlt2 : (on : Int) < (L1 : Int) := by omega
          have hgt : (0 : Int) < (L1 : Int) := by omega
          have hon2 : (L1 : Int) ≤ 1000000 := by omega
          have hcap : (on : Int) ≤ (c2 : Int) := by
            have h1 := HR2.out.row.cases.2.1
            rw [List.length_append, List.length_singleton] at h1
            omega
          clear eon eL hon
          go_upto_region 12 with fail
          have hpop := HR2.out.pop
          rw [← EON.out] at hpop
          have HR4 := hid hpop
          clear x0 xl xf hq hql hpop
          generalize wr.setCell ⟨go, 0, none⟩ (.slice (some ⟨q, 0, none⟩) on c2) = w5 at *
          have hyx := HR2.out.mem y (List.mem_append_right _ (List.mem_singleton.2 rfl))
          have hrs := hp_head (HV1.out.at hyx).1
          have hfew : op3.length + Hp.un (its v.sl) Mk2 ≤ 65536 := by
            have h1 := HI2.out.few
            have h2 := HV1.out.small
            simp only [opI_len, List.length_append, List.length_singleton] at h1
            omega
          have hcall := HMk.out y.2.A y.2.c y.2.o.f (row_vals_at HM.out HV1.out hyx) (by omega) Mk2 op3 (some ⟨q, 0, none⟩) c2 w5 HR4.out hfew
          unfold MarkIn at hcall
          have HIt := hid ((HM.out.it y.1 y.2 hyx).2.1.grew HR4.out.gr)
          unfold sxC at HIt
          have z4 := HIt.out.cell 4
          have zl := HIt.out.lt
          simp only [List.getElem?_toArray, List.getElem?_cons_zero, List.getElem?_cons_succ] at z4
          have HI3 := hid (show Hp.LookInv (its v.sl) (flat rs) (fun u => u ∈ y.2.o.f ∨ False) (Mk2, opI op3) by
            have h1 := HI2.out
            rw [show opI (op3 ++ [y]) = opI op3 ++ [⟨(y.1 : Int), y.2.h, y.2.o⟩] from opI_snoc op3 y.1 y.2] at h1
            exact h1.pop)
          have HRe := hid (show ∀ u ∈ y.2.o.f, Hp.IsRef (its v.sl) u → Hp.Reach (its v.sl) (flat rs) u.n by
            have h1 := HI2.out
            rw [show opI (op3 ++ [y]) = opI op3 ++ [⟨(y.1 : Int), y.2.h, y.2.o⟩] from opI_snoc op3 y.1 y.2] at h1
            exact h1.pop_reach)
          clear hyx hrs hfew HR2 HI2
          obtain ⟨k, p, hh, ⟨cls, lev, fl, bt⟩, xA, xc⟩ := y
          simp only at z4 zl hcall HI3 HRe
          go_wp2_with (go_at_call 78; refine hcall.mono ?_; rintro e w6 ⟨rfl, A5, c5, Mk5, op5, hr5, hl5⟩; have HR5 := hid hr5; have HL5 := hid hl5; clear hr5 hl5)
          go_round
          case rel =>
            refine ⟨_, A5, c5, Mk5, op5, HR5.out, ?_, rfl⟩
            rw [HL5.out]
            exact Hp.LookInv.all (its_sorted _) fl HI3.out HRe.out
          case measure =>
            have h1 := Hp.lookAll_measure (its v.sl) fl (Mk2, opI op3)
            rw [← HL5.out] at h1
            simp only [opI_len] at h1
            have h2 : mu (RchM w v gb gm go M (flat rs) w6) ≤ 2 * Hp.un (its v.sl) Mk5 + op5.length := mu_le ⟨A5, c5, Mk5, op5, HR5.out, by
              rw [HL5.out]
              exact Hp.LookInv.all (its_sorted _) fl HI3.out HRe.out, rfl⟩
            have h3 := HMu.out
            rw [List.length_append, List.length_singleton] at h3
            omega
end Go.Proofs.YtidnaednldcdfaaGreatDoor
namespace Go.Proofs.YtidnaednldcdfaaGreatDoor
open Go.RowKit

/-- A block of another type is not one of a heap's. -/
theorem MemAt.alien {w : World} {B : Nat} {v : HV} (h : MemAt w B v) {k : Nat} {t : TypeId} {cs : Array Value} (hb : Blk w k t cs) (h1 : t ≠ 95) (h2 : t ≠ 84) (h3 : t ≠ 89) (h4 : t ≠ 41) : ¬ HOwns v k := by
  rintro (rfl | hk | ⟨i, x, hx, rfl | hk⟩)
  · exact h1 (hb.ty h.blk).1
  · obtain ⟨ds, hd⟩ := h.row.blkAt hk
    exact h2 (hb.ty hd).1
  · exact h3 (hb.ty (h.it i x hx).2.1).1
  · obtain ⟨ds, hd⟩ := (h.it i x hx).2.2.blkAt hk
    exact h4 (hb.ty hd).1
/-- An object less leaves a heap's numbers right. -/
theorem remove_ok {v : HV} {C : Nat} (hv : HvOk v C) {i j : Nat} {x : SX} (hx : v.sl[i]? = some (some x)) (hj : x.o.lev = (j : Int)) :
    HvOk (setFr (setUN (setSl v v.S v.cs (v.sl.set i none)) (upd v.us j (v.us j - (Hp.words x.o : Nat))) (v.n - 1)) (min v.fr (i : Int))) C ∧ its (v.sl.set i none) = Hp.del (its v.sl) (i : Int) := by
  have e : its (v.sl.set i none) = Hp.del (its v.sl) (i : Int) := its_del i
  have hm : (⟨(i : Int), x.h, x.o⟩ : Hp.It) ∈ its v.sl := mem_its.2 ⟨i, x, hx, rfl⟩
  have hsum : ∀ p, Hp.sumIf p (its (v.sl.set i none)) + (if p ⟨(i : Int), x.h, x.o⟩ then Hp.words x.o else 0) = Hp.sumIf p (its v.sl) := fun p => by
    rw [e]
    exact Hp.sum_del p (its v.sl) ⟨(i : Int), x.h, x.o⟩ (its_sorted _) hm
  have hlen : (its (v.sl.set i none)).length + 1 = (its v.sl).length := by
    rw [e]
    exact Hp.len_del (its v.sl) ⟨(i : Int), x.h, x.o⟩ (its_sorted _) hm
  have hus : ∀ k : Nat, Hp.used (its (v.sl.set i none)) (k : Int) + (if j = k then Hp.words x.o else 0) = Hp.used (its v.sl) (k : Int) := fun k => by
    have h1 := hsum (Hp.lvl (k : Int))
    unfold Hp.used
    rw [← h1]
    by_cases hk : j = k
    · rw [if_pos hk, if_pos (by simp [Hp.lvl, hj, hk])]
    · rw [if_neg hk, if_neg (by simp [Hp.lvl, hj]; omega)]
  have hall : Hp.all (its (v.sl.set i none)) + Hp.words x.o = Hp.all (its v.sl) := by
    have := hsum (fun _ => true)
    unfold Hp.all
    rw [← this]
    simp
  have hsub : ∀ y ∈ its (v.sl.set i none), y ∈ its v.sl := fun y hy => by
    rw [e] at hy
    exact (List.mem_filter.1 hy).1
  refine ⟨⟨hv.valid, hv.room, hv.q, hv.cn, fun k => ?_, ?_, fun y hy => hv.ok y (hsub y hy), fun y hy => hv.hs y (hsub y hy), fun k hk => ?_, ?_, ?_, ⟨?_, ?_, fun k hk => ?_⟩, hv.C⟩, e⟩
  · show upd v.us j (v.us j - (Hp.words x.o : Nat)) k = (Hp.used (its (v.sl.set i none)) (k : Int) : Nat)
    have h1 := hv.us k
    have h2 := hus k
    unfold upd
    by_cases hk : j = k
    · subst hk
      rw [if_pos rfl]
      rw [if_pos rfl] at h2
      omega
    · rw [if_neg (by omega)]
      rw [if_neg hk] at h2
      omega
  · show v.n - 1 = ((its (v.sl.set i none)).length : Nat)
    have := hv.n
    omega
  · show (Hp.used (its (v.sl.set i none)) (k : Int) : Int) ≤ v.q k
    have h1 := hv.fit k hk
    have h2 := hus k
    omega
  · show (Hp.all (its (v.sl.set i none)) : Int) ≤ v.room
    have h1 := hv.fitAll
    omega
  · show (v.sl.set i none).length ≤ 65536
    rw [List.length_set]
    exact hv.len
  · show 0 ≤ min v.fr (i : Int)
    have := hv.fr.1
    omega
  · show min v.fr (i : Int) ≤ ((v.sl.set i none).length : Nat)
    rw [List.length_set]
    have := hv.fr.2.1
    omega
  · have hk' : (k : Int) < min v.fr (i : Int) := hk
    obtain ⟨z, hz⟩ := hv.fr.2.2 k (by omega)
    exact ⟨z, by show (v.sl.set i none)[k]? = _; rw [List.getElem?_set, if_neg (by omega)]; exact hz⟩
/-- What is left when all below a number have been looked at. -/
def leftI (L : List Hp.It) (Mk : List Int) (i : Int) : List Hp.It := L.filter (fun x => decide (i ≤ x.i) || decide (x.i ∈ Mk))
theorem leftI_zero {L : List Hp.It} (h : ∀ x ∈ L, 0 ≤ x.i) (Mk : List Int) : leftI L Mk 0 = L := by
  unfold leftI
  exact List.filter_eq_self.2 (fun x hx => by simp [h x hx])
theorem leftI_in {L : List Hp.It} {Mk : List Int} {i : Int} (h : i ∈ Mk) : leftI L Mk (i + 1) = leftI L Mk i := by
  unfold leftI
  apply List.filter_congr
  intro x _
  by_cases e : x.i = i
  · simp [e, h]
  · have : (i + 1 ≤ x.i) ↔ (i ≤ x.i) := by omega
    simp [this]
theorem leftI_no {L : List Hp.It} {Mk : List Int} {i : Int} (h : ∀ x ∈ leftI L Mk i, x.i ≠ i) : leftI L Mk (i + 1) = leftI L Mk i := by
  unfold leftI at h ⊢
  apply List.filter_congr
  intro x hx
  by_cases e : x.i = i
  · exact absurd e (h x (List.mem_filter.2 ⟨hx, by simp [e]⟩))
  · have : (i + 1 ≤ x.i) ↔ (i ≤ x.i) := by omega
    simp [this]
theorem leftI_del {L : List Hp.It} {Mk : List Int} {i : Int} (h : i ∉ Mk) : leftI L Mk (i + 1) = Hp.del (leftI L Mk i) i := by
  unfold leftI Hp.del
  rw [List.filter_filter]
  apply List.filter_congr
  intro x _
  by_cases e : x.i = i
  · simp [e, h]
    omega
  · have : (i + 1 ≤ x.i) ↔ (i ≤ x.i) := by omega
    simp [this, e]
theorem leftI_end {L : List Hp.It} {Mk : List Int} {N : Int} (h : ∀ x ∈ L, x.i < N) : leftI L Mk N = L.filter (fun x => decide (x.i ∈ Mk)) := by
  unfold leftI
  apply List.filter_congr
  intro x hx
  have := h x hx
  simp
  omega
/-- What Collect answers, and leaves. -/
def CollectV (w : World) (B : Nat) (v : HV) (C : Nat) (rs : List Ob.Val) (e : Ending) (w' : World) : Prop :=
  ∃ v', e = .returned (.int .i64 (((its v.sl).length : Int) - ((Hp.kept (its v.sl) rs).length : Int))) ∧ Step w B v v' w' ∧ HvOk v' C ∧ its v'.sl = Hp.kept (its v.sl) rs ∧ v'.cn = v.cn
set_option maxRecDepth 100000 in
set_option maxHeartbeats 8000000 in
theorem hCollect_c (v : HV) (B C : Nat) (A : Option Addr) (c : Nat) (rs : List LV) (w : World) (h : MemAt w B v) (hv : HvOk v C) (hr : ListsAt w A rs) (hrl : rs.length ≤ 1000) (hrx : ∀ x ∈ rs, x.l.length ≤ 1000) :
    Calls Tryz.prog 12 #[.pointer (some ⟨v.g, 0, none⟩), .slice A rs.length c] w (CollectV w B v C (flat rs)) := by
  have HM := hid h
  have HV1 := hid hv
  have HRe := hid (reached_c v B C A c rs w h hv hr hrl hrx)
  obtain ⟨q27, q27l⟩ := hm_cell h (Grew.refl w) 27 (u := .int .i64 v.n) rfl
  have hnn := hv.n
  have hsm := hv.small
  clear h hv hr hrl hrx
  obtain ⟨N, eN⟩ : ∃ N, N = v.sl.length := ⟨_, rfl⟩
  have ENN := hid eN
  have hlen : (N : Int) ≤ 65536 := by have := HV1.out.len; omega
  obtain ⟨sg, esg⟩ : ∃ sg, sg = v.g := ⟨_, rfl⟩
  rw [← esg] at HRe q27 q27l ⊢
  have ESG := hid esg
  obtain ⟨ln, eln⟩ : ∃ ln, ln = (its v.sl).length := ⟨_, rfl⟩
  rw [← eln] at hnn hsm
  rw [hnn] at q27
  have ELN := hid eln
  clear eN esg eln hnn
  unfold ReachedV at HRe
  rw [← ENN.out] at HRe
  generalize rs.length = rn at *
  go_enter Tryz.func12, Tryz.ntmps12
  go_wp2_with (go_at_call 44; refine HRe.out.mono ?_; rintro e w2 ⟨M, Mk, rfl, hMl, hMb, hMr, hg2⟩; have HMl := hid hMl; have HMb := hid hMb; have HMr := hid hMr; have HG2 := hid hg2; clear hMl hMb hMr hg2 q27 q27l)
  go_loopw [6, 7, 18] (fun _ _ s18 wr => ∃ (i : Nat) (v1 : HV), s18 = .int .i64 ((i : Nat) : Int) ∧ i ≤ N ∧ Hid (Step w B v v1 wr) ∧ Hid (HvOk v1 C) ∧ Hid (its v1.sl = leftI (its v.sl) Mk (i : Int)) ∧ Hid (v1.cn = v.cn) ∧ Hid (Blk wr M 4 (marksC N Mk).toArray)) (fun _ _ s18 _ => N - (intOf s18).toNat)
  case atStart => exact ⟨0, v, rfl, Nat.zero_le _, hid (Step.of_grew HM.out HG2.out), HV1, hid (leftI_zero (fun x hx => (its_nonneg x hx).1) Mk).symm, hid rfl, HMb⟩
  case round =>
    obtain ⟨i, v1, rfl, hi, HS, HO, HL, HC, HB⟩ := hrel
    have eg : v1.g = sg := by rw [HS.out.g, ← ESG.out]
    have EG := hid eg
    by_cases hlt : i < N
    · have f1 : (i : Int) < (N : Int) := by omega
      have x0 := HB.out.cell i
      have xl := HB.out.lt
      rw [List.getElem?_toArray, marksC_get _ _ hlt] at x0
      have HHas := hid (fun W (hW : Grew wr W) => has_c v1 B (i : Int) W (HS.out.mem.grew hW) HO.out.len)
      rw [eg] at HHas
      clear eg
      have hcall := HHas.out wr (Grew.refl _)
      cases hb : hasB v1.sl (i : Int)
      · rw [hb] at hcall
        have HLn := hid (show its v1.sl = leftI (its v.sl) Mk ((i + 1 : Nat) : Int) by
          rw [HL.out, show ((i + 1 : Nat) : Int) = (i : Int) + 1 by omega]
          refine (leftI_no (fun x hx e => ?_)).symm
          rw [← HL.out] at hx
          have h1 := hasB_find (l := v1.sl) (i := (i : Int))
          rw [hb] at h1
          have h2 : Hp.find (its v1.sl) (i : Int) = none := by simpa using h1.symm
          exact Hp.find_none.1 h2 x hx e)
        clear hb
        generalize decide ((i : Int) ∈ Mk) = bm at *
        go_wp2_with (go_at_call 45; refine hcall.mono ?_; rintro e w3 ⟨rfl, hg3⟩)
        go_round
        case rel => exact ⟨i + 1, v1, by go_num, by omega, hid (HS.out.grew hg3), HO, HLn, HC, hid (HB.out.grew hg3)⟩
        case measure => simp [intOf]; omega
      · rw [hb] at hcall
        obtain ⟨x, hx⟩ : ∃ x, v1.sl[i]? = some (some x) := by
          rcases hasB_cases v1.sl (i : Int) with h2 | ⟨j, e, h2⟩ | ⟨j, y, e, h2⟩
          · rw [hasB_out h2] at hb; cases hb
          · rw [e, hasB_no h2] at hb; cases hb
          · obtain rfl : i = j := by omega
            exact ⟨y, h2⟩
        clear hb
        by_cases hmk : (i : Int) ∈ Mk
        · rw [decide_eq_true hmk] at x0
          have HLn := hid (show its v1.sl = leftI (its v.sl) Mk ((i + 1 : Nat) : Int) by
            rw [HL.out, show ((i + 1 : Nat) : Int) = (i : Int) + 1 by omega, leftI_in hmk])
          clear hmk hx
          go_wp2_with (go_at_call 45; refine hcall.mono ?_; rintro e w3 ⟨rfl, hg3⟩)
          go_round
          case rel => exact ⟨i + 1, v1, by go_num, by omega, hid (HS.out.grew hg3), HO, HLn, HC, hid (HB.out.grew hg3)⟩
          case measure => simp [intOf]; omega
        · rw [decide_eq_false hmk] at x0
          have hh := hp_head (HO.out.at hx).1
          have hlv := HO.out.lens
          obtain ⟨j, ej⟩ : ∃ j : Nat, x.o.lev = (j : Int) := ⟨x.o.lev.toNat, by omega⟩
          have hj8 : j < 8 := by omega
          have HRm := hid (fun W (hW : Grew wr W) => remove_c v1 B i x j W (HS.out.mem.grew hW) HO.out.len hx (by omega) (by omega) ej hj8 (by have := HO.out.usB j; omega) (by have h1 := HO.out.n; have h2 := HO.out.small; omega))
          have HOk := hid (remove_ok HO.out hx ej)
          rw [EG.out] at HRm
          have HLn := hid (show its (v1.sl.set i none) = leftI (its v.sl) Mk ((i + 1 : Nat) : Int) by
            rw [HOk.out.2, HL.out, show ((i + 1 : Nat) : Int) = (i : Int) + 1 by omega, leftI_del hmk])
          obtain ⟨v2, ev2⟩ : ∃ v2, v2 = setFr (setUN (setSl v1 v1.S v1.cs (v1.sl.set i none)) (upd v1.us j (v1.us j - (Hp.words x.o : Nat))) (v1.n - 1)) (min v1.fr (i : Int)) := ⟨_, rfl⟩
          rw [← ev2] at HRm HOk
          have EV2 := hid ev2
          clear hmk hx hh hlv ej ev2
          go_wp2_with first | (go_at_call 45; refine hcall.mono ?_; rintro e w3 ⟨rfl, hg3⟩; have HG3 := hid hg3; clear hg3) | (go_at_call 46; refine (HRm.out _ HG3.out).mono ?_; rintro e w4 ⟨rfl, hs4⟩; have HS4 := hid hs4; clear hs4)
          go_round
          case rel =>
            refine ⟨i + 1, v2, by go_num, by omega, hid ((HS.out.grew HG3.out).trans HS4.out), hid HOk.out.1, hid (by rw [EV2.out]; exact HLn.out), hid (by rw [EV2.out]; exact HC.out), hid ((HB.out.grew HG3.out).kept HS4.out.kept ((HS.out.grew HG3.out).mem.alien (HB.out.grew HG3.out) (by decide) (by decide) (by decide) (by decide)))⟩
          case measure => simp [intOf]; omega
    · have f1 : ¬ (i : Int) < (N : Int) := by omega
      obtain ⟨q27, q27l⟩ := hm_cell HS.out.mem (Grew.refl _) 27 (u := .int .i64 v1.n) rfl
      rw [eg] at q27 q27l
      rw [HO.out.n] at q27
      have HLe := hid (show its v1.sl = Hp.kept (its v.sl) (flat rs) by
        rw [HL.out, show i = N by omega, Hp.kept_of HMr.out]
        exact leftI_end (fun x hx => by rw [ENN.out]; exact (its_nonneg x hx).2))
      obtain ⟨l2, el2⟩ : ∃ l2, l2 = (its v1.sl).length := ⟨_, rfl⟩
      rw [← el2] at q27
      have EL2 := hid el2
      have hl2 : (l2 : Int) ≤ 65536 := by have := HO.out.small; omega
      have hln : (ln : Int) ≤ 65536 := by omega
      have hwr := wrap64 (x := (ln : Int) - (l2 : Int)) (by omega) (by omega)
      clear eg el2
      go_wp2_with fail
      go_ret
      refine ⟨v1, ?_, HS.out, HO.out, HLe.out, HC.out⟩
      rw [← HLe.out, ← EL2.out, ← ELN.out]
      rfl
end Go.Proofs.YtidnaednldcdfaaGreatDoor

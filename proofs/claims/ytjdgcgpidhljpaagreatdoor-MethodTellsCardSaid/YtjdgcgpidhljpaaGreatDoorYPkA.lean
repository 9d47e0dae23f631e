/- Parts of elder texts that this layer needs, joined: XPk1 XPk2 XPk3 XPk4. -/
import Derived.Test.YtjdgcgpidhljpaaGreatDoorProg
import Derived.Test.YtjdgcgpidhljpaaGreatDoorYBase
import Derived.Test.YtjdgcgpidhljpaaGreatDoorYViM
import Derived.Test.YtjdgcgpidhljpaaGreatDoorYViA
import Derived.Lib.SlBytesConst
namespace Go.Proofs.YtjdgcgpidhljpaaGreatDoor
open Go.RowKit

theorem v6_u8 : (Tryz.prog.info? 5).map (fun i => (i.zero, i.size, i.bytes)) = some (some (.int .u8 0), 1, 1) := by kernel_rfl

def ClonePost (w : World) (xs : List Nat) (e : Ending) (w' : World) : Prop :=
  ∃ A' c', e = .returned (.slice A' xs.length c') ∧ Row w' w.heap.size 5 1 A' xs.length c' (numCells .u8 xs) ∧ Grew w w'
set_option maxRecDepth 100000 in
set_option maxHeartbeats 1000000 in
theorem clone_c (A : Option Addr) (c : Nat) (xs : List Nat) (w : World) (ha : NumsAt .u8 w w.heap.size A xs) (hl : xs.length ≤ 140737488355328) :
    Calls Tryz.prog 67 #[.slice A xs.length c] w (ClonePost w xs) := by
  have HA := hid ha
  have HL := hid hl
  have q22 : ∀ (w : World) (a : Option Addr) (n c n' c' : Nat), (binOp .eql 26 (.slice a n c) (.slice none n' c')).run Tryz.prog w = .ok (.bool a.isNone) w := fun w a n c n' c' => Lib.run_eql_slice_nil w _ _ a n c n' c' Tryz.underlying26
  clear ha hl
  cases A with
  | none =>
    have h0 : xs = [] := List.eq_nil_of_length_eq_zero (HA.out.cells.1 rfl)
    subst h0
    go_enter Tryz.func67, Tryz.ntmps67
    go_wp2_with fail
    go_ret
    exact ⟨none, 0, rfl, Row.nil _ _ _ _, Grew.refl _⟩
  | some ad =>
    go_enter Tryz.func67, Tryz.ntmps67
    go_wp2_with (at_builtin; refine wpList_catR (.int .u8 0) 1 1 (w.alloc (.cells #[] 5)) rfl _ _ 26 5 rfl Tryz.underlying26 v6_u8 rfl (by decide) w.heap.size (by simp) _ 0 0 [] rfl (Row.made (Nat.le_refl _)) (some ad) xs.length c (numCells .u8 xs) rfl (by simp [numCells]) (numCells_one _ _) (by intro h; cases h) (HA.out.grew ((Grew.refl w).alloc _)).cells.2 (by have := HL.out; omega) (by have := HL.out; omega) ?_; rintro A1 c1 w1 hR hK _)
    go_ret
    refine ⟨A1, c1, by simp, by simpa using hR, ?_⟩
    exact hK.grew ((Grew.refl w).alloc _) (fun k hk => by obtain ⟨ad, h1, h2⟩ := hk; cases h1; rw [← h2]; exact Nat.le_refl _)

/-- A Reader at block 'g'; its bytes lie between the blocks 'lo' and 'g'. -/
def RdAt (w : World) (lo g : Nat) (st : Pk.St) : Prop :=
  ∃ A c, Blk w g 130 #[.slice A (Pk.rest st).length c, .bool st.isNone] ∧ BytesAt w g A (Pk.rest st) ∧ (∀ ad, A = some ad → lo ≤ ad.block ∧ ad.block < g) ∧ (Pk.rest st).length ≤ c ∧ c ≤ 9223372036854775807
theorem RdAt.lt {w : World} {lo g : Nat} {st : Pk.St} (h : RdAt w lo g st) : g < w.heap.size := by
  obtain ⟨A, c, h1, _⟩ := h
  exact h1.lt
theorem RdAt.kept {F : Nat → Prop} {w w' : World} {lo g : Nat} {st : Pk.St} (h : RdAt w lo g st) (hk : Kept F w w') (hF : ∀ k, lo ≤ k → k ≤ g → ¬ F k) (hlo : lo ≤ g) : RdAt w' lo g st := by
  have hlt := h.lt
  obtain ⟨A, c, h1, h2, h3, h4, h5⟩ := h
  exact ⟨A, c, h1.kept hk (hF g hlo (Nat.le_refl _)), ⟨h2.1, NumsAt.kept (NumsAt.of_bytes h2) hk (by omega) (fun ad e => hF _ (h3 ad e).1 (Nat.le_of_lt (h3 ad e).2))⟩, h3, h4, h5⟩
theorem RdAt.grew {w w' : World} {lo g : Nat} {st : Pk.St} (h : RdAt w lo g st) (hg : Grew w w') (hlo : lo ≤ g) : RdAt w' lo g st := h.kept (F := fun _ => False) (.of_grew hg) (fun _ _ _ h => h) hlo

def ReadPostP (w : World) (xs : List Nat) (e : Ending) (w' : World) : Prop :=
  ∃ g, e = .returned (.pointer (some ⟨g, 0, none⟩)) ∧ w.heap.size ≤ g ∧ RdAt w' w.heap.size g (some xs) ∧ Grew w w'
set_option maxRecDepth 100000 in
set_option maxHeartbeats 1000000 in
theorem read_c (A : Option Addr) (c : Nat) (xs : List Nat) (w : World) (ha : BytesAt w w.heap.size A xs) (hl : xs.length ≤ 140737488355328) :
    Calls Tryz.prog 29 #[.slice A xs.length c] w (ReadPostP w xs) := by
  have HA := hid ha
  have HC := hid (clone_c A c xs w (NumsAt.of_bytes ha) hl)
  clear ha hl
  go_enter Tryz.func29, Tryz.ntmps29
  go_wp2_with fail
  refine HC.out.mono ?_
  rintro e w1 ⟨A1, c1, rfl, hR, hG⟩
  have HR := hid hR
  have HG := hid hG
  clear hR hG HC
  go_wp2_with fail
  go_ret
  refine ⟨w1.heap.size, rfl, HG.out.below.size, ⟨A1, c1, Blk.new _ _ _, ⟨HA.out.1, fun hn => ?_⟩, fun ad had => ?_, HR.out.cases.2.1, HR.out.cases.2.2.1⟩, HG.out.alloc _⟩
  · obtain ⟨ad, e, hb, hc⟩ := HR.out.nums hn
    exact ⟨ad, e, hb, fun j hj => by rw [World.cell?_alloc_lt _ _ _ (by rw [block_add]; exact hb)]; exact hc j hj⟩
  · rcases HR.out.cases with ⟨_, _, _, ⟨h0, _⟩ | ⟨g, h1, h2, h3, _⟩⟩
    · rw [h0] at had; cases had
    · rw [h1] at had
      cases had
      exact ⟨h2, h3⟩

def FailPost (w : World) (g : Nat) (e : Ending) (w' : World) : Prop :=
  e = .returned (.tuple #[]) ∧ Blk w' g 130 #[.slice none 0 0, .bool true] ∧ Kept (· = g) w w'
set_option maxRecDepth 100000 in
set_option maxHeartbeats 1000000 in
theorem fail_c (g : Nat) (v0 v1 : Value) (w : World) (h : Blk w g 130 #[v0, v1]) :
    Calls Tryz.prog 71 #[.pointer (some ⟨g, 0, none⟩)] w (FailPost w g) := by
  have HB := hid h
  have c0 := h.cell 0
  have c1 := h.cell 1
  have f0 := h.frozen 0
  have f1 := h.frozen 1
  simp only [List.getElem?_toArray, List.getElem?_cons_zero, List.getElem?_cons_succ] at c0 c1
  have hlt := h.lt
  clear h
  go_enter Tryz.func71, Tryz.ntmps71
  go_wp2_with fail
  go_end0
  refine ⟨rfl, ?_, ?_⟩
  · have := (HB.out.put 0 (.slice none 0 0)).put 1 (.bool true)
    simpa using this
  · exact Kept.setCell (F := (· = g)) (Kept.setCell (F := (· = g)) (Kept.refl _ _) (p := ⟨g, 0, none⟩) (fun _ => rfl) _) (p := ⟨g, 1, none⟩) (fun _ => rfl) _
end Go.Proofs.YtjdgcgpidhljpaaGreatDoor
namespace Go.Proofs.YtjdgcgpidhljpaaGreatDoor
open Go.RowKit

theorem BytesAt.wide {w : World} {B B' : Nat} {A : Option Addr} {xs : List Nat} (h : BytesAt w B A xs) (hB : B ≤ B') : BytesAt w B' A xs :=
  ⟨h.1, fun hn => by
    obtain ⟨ad, e, hb, hc⟩ := h.2 hn
    exact ⟨ad, e, Nat.lt_of_lt_of_le hb hB, hc⟩⟩
theorem rest_drop (st : Pk.St) (k : Nat) : Pk.rest (st.map (·.drop k)) = (Pk.rest st).drop k := by
  cases st <;> simp [Pk.rest]
/-- The Reader's slice goes on behind the first 'k' bytes. -/
theorem RdAt.step {w w1 : World} {lo g : Nat} {A : Option Addr} {c : Nat} {st : Pk.St} {xs : List Nat} {fl : Bool} (hst : xs = Pk.rest st) (hfl : fl = st.isNone) (hB : Blk w g 130 #[.slice A xs.length c, .bool fl]) (hA : BytesAt w g A xs) (hlo : ∀ ad, A = some ad → lo ≤ ad.block ∧ ad.block < g) (hc : xs.length ≤ c) (hm : c ≤ 9223372036854775807)
    (hg : Grew w w1) (k : Nat) (A' : Option Addr) (n' c' : Nat) (hn : n' = xs.length - k) (hA' : (k = c ∧ A' = A ∧ c' = 0) ∨ (A' = A.map (·.add k) ∧ c' = c - k)) (hk : k ≤ xs.length) :
    RdAt (w1.setCell ⟨g, 0, none⟩ (.slice A' n' c')) lo g (st.map (·.drop k)) ∧ Kept (· = g) w (w1.setCell ⟨g, 0, none⟩ (.slice A' n' c')) := by
  subst hst hfl
  have hK : Kept (· = g) w (w1.setCell ⟨g, 0, none⟩ (.slice A' n' c')) := Kept.setCell (F := (· = g)) (.of_grew hg) (p := ⟨g, 0, none⟩) (fun _ => rfl) _
  have hlt := hB.lt
  refine ⟨⟨A', c', ?_, ?_, ?_, ?_, ?_⟩, hK⟩
  · have := (hB.grew hg).put 0 (.slice A' n' c')
    rw [rest_drop, List.length_drop, ← hn, Option.isNone_map]
    simpa using this
  · rw [rest_drop]
    refine ⟨fun x hx => hA.1 x (List.mem_of_mem_drop hx), ?_⟩
    have h1 : NumsAt .u8 (w1.setCell ⟨g, 0, none⟩ (.slice A' n' c')) g A (Pk.rest st) := NumsAt.kept (NumsAt.of_bytes hA) hK (Nat.le_of_lt hlt) (fun ad e => Nat.ne_of_lt (hlo ad e).2)
    intro hn0
    rcases hA' with ⟨h2, _⟩ | ⟨rfl, _⟩
    · rw [List.length_drop] at hn0; omega
    · obtain ⟨ad, rfl, _⟩ := h1 (by rw [List.length_drop] at hn0; omega)
      exact (h1.drop k) hn0
  · intro ad had
    rcases hA' with ⟨_, rfl, _⟩ | ⟨rfl, _⟩
    · exact hlo ad had
    · obtain ⟨ad0, rfl, rfl⟩ := Option.map_eq_some_iff.1 had
      rw [block_add]
      exact hlo ad0 rfl
  · rw [rest_drop, List.length_drop]
    rcases hA' with ⟨_, _, rfl⟩ | ⟨_, rfl⟩ <;> omega
  · rcases hA' with ⟨_, _, rfl⟩ | ⟨_, rfl⟩ <;> omega
/-- A Reader that failed. -/
theorem RdAt.failed {w w1 w2 : World} {lo g : Nat} (hg : Grew w w1) (hB : Blk w2 g 130 #[.slice none 0 0, .bool true]) (hK : Kept (· = g) w1 w2) : RdAt w2 lo g none ∧ Kept (· = g) w w2 :=
  ⟨⟨none, 0, hB, BytesAt.nil _ _ _, (fun ad h => by cases h), by simp [Pk.rest], by decide⟩, (Kept.of_grew hg).trans hK⟩

def RIntPost (w : World) (lo g : Nat) (r : Int × Pk.St) (e : Ending) (w' : World) : Prop :=
  e = .returned (.int .i64 r.1) ∧ RdAt w' lo g r.2 ∧ Kept (· = g) w w'
set_option maxRecDepth 100000 in
set_option maxHeartbeats 2000000 in
theorem rint_c (lo g : Nat) (st : Pk.St) (a b : Int) (w : World) (h : RdAt w lo g st) :
    Calls Tryz.prog 31 #[.pointer (some ⟨g, 0, none⟩), .int .i64 a, .int .i64 b] w (RIntPost w lo g (Pk.int st a b)) := by
  have hlt := h.lt
  obtain ⟨A, c, hB, hA, hlo, hc, hm⟩ := h
  have HP : Hid (Pk.int st a b = match Pk.num (Pk.rest st) a b with | some (n, r) => (n, some r) | none => (0, none)) := hid (by
    cases st with
    | none => rfl
    | some r => rfl)
  have HF : Hid (st.isNone = true → Vi.getE (Pk.rest st) ≠ 0) := hid (fun h => by
    cases st with
    | none => exact (by decide : Vi.getE [] ≠ 0)
    | some r => cases h)
  obtain ⟨fl, hfl⟩ : ∃ fl, fl = st.isNone := ⟨_, rfl⟩
  rw [← hfl] at hB HF
  generalize Pk.int st a b = res at *
  generalize Pk.rest st = xs at *
  clear hfl st
  have HG := hid (vget_c A c xs w (hA.wide (Nat.le_of_lt hlt)) hc hm)
  have c0 := hB.cell 0
  simp only [List.getElem?_toArray, List.getElem?_cons_zero] at c0
  have f0 := hB.frozen 0
  have HB := hid hB
  have HA := hid hA
  have HLO := hid hlo
  have HM := hid (And.intro hc hm)
  have HL := hid (Pk.getL_prefix xs).length_le
  have HL0 : Hid (Vi.getE xs = 0 → 1 ≤ (Vi.getL xs).length) := hid (fun h => by
    unfold Vi.getE at h
    split at h
    · cases h
    · rename_i hne
      cases hx : Vi.getL xs with
      | nil => exact absurd hx hne
      | cons _ _ => simp)
  have HE : Hid (Vi.getE xs = 0 ∨ Vi.getE xs = 2) := hid (by unfold Vi.getE; split <;> simp)
  have HN : Hid (Pk.num xs a b = if Vi.getE xs = 0 ∧ a ≤ Vi.getN xs ∧ Vi.getN xs ≤ b then some (Vi.getN xs, xs.drop (Vi.getL xs).length) else none) := hid rfl
  unfold GetPost at HG
  obtain ⟨E, hE⟩ : ∃ E, E = Vi.getE xs := ⟨_, rfl⟩
  obtain ⟨n, hn⟩ : ∃ n, n = Vi.getN xs := ⟨_, rfl⟩
  obtain ⟨k, hk⟩ : ∃ k, k = (Vi.getL xs).length := ⟨_, rfl⟩
  rw [← hE, ← hn, ← hk] at HG HN
  rw [← hE] at HF HL0 HE
  rw [← hk] at HL HL0
  clear hB hA hlo hc hm hE hn hk
  have bad : ∀ (w1 : World), Grew w w1 → Calls Tryz.prog 71 #[.pointer (some ⟨g, 0, none⟩)] w1 (fun e w2 => e = .returned (.tuple #[]) ∧ RdAt w2 lo g none ∧ Kept (· = g) w w2) := fun w1 hg =>
    (fail_c g _ _ w1 (HB.out.grew hg)).mono fun e w2 ⟨h1, h2, h3⟩ => ⟨h1, RdAt.failed hg h2 h3⟩
  have HBad := hid bad
  clear bad
  by_cases hok : E = 0 ∧ a ≤ n ∧ n ≤ b
  · obtain ⟨h1, h2, h3⟩ := hok
    have t1 : ¬ n < a := by omega
    have t2 : ¬ b < n := by omega
    have HR := hid (show res = (n, some (xs.drop k)) by rw [HP.out, HN.out, if_pos ⟨h1, h2, h3⟩])
    have hk1 := HL0.out h1
    have hk2 := HL.out
    have HFL := hid (show fl = false by
      cases fl
      · rfl
      · exact absurd h1 (HF.out rfl))
    obtain rfl := HFL.out
    subst h1
    rw [show errVal 0 = .nilIface from if_pos rfl] at HG
    clear HP HN HF HL HL0 HE HBad HFL h2 h3
    obtain ⟨ad, rfl, hb, _⟩ := HA.out.2 (by omega)
    have hq1 : 1 ≤ (k : Int) := by omega
    have hq2 : (k : Int) ≤ xs.length := by omega
    have hq3 : (k : Int) ≤ c := by have := HM.out; omega
    by_cases hcap : k = c
    all_goals
      go_enter Tryz.func31, Tryz.ntmps31
      go_wp2_with fail
      refine HG.out.mono ?_
      rintro e w1 ⟨rfl, y, rfl⟩
      clear HG
      go_wp2_with fail
      go_ret
      have hs := RdAt.step (st := some xs) (xs := xs) rfl rfl HB.out HA.out HLO.out HM.out.1 HM.out.2 y.grew k
      rw [HR.out]
      first
        | exact ⟨rfl, hs _ _ _ rfl (.inr ⟨rfl, rfl⟩) hk2⟩
        | exact ⟨rfl, hs _ _ _ (by rw [hcap]) (.inl ⟨hcap, rfl, by omega⟩) hk2⟩
  · have HR := hid (show res = (0, none) by rw [HP.out, HN.out, if_neg hok])
    clear HP HN HF HL HL0 HB HA HLO HM
    rcases HE.out with rfl | rfl
    · rw [show errVal 0 = .nilIface from if_pos rfl] at HG
      rcases (by omega : n < a ∨ (a ≤ n ∧ b < n)) with h1 | ⟨h1, h2⟩
      all_goals
        try (have t1 : ¬ n < a := by omega)
        clear hok HE
        go_enter Tryz.func31, Tryz.ntmps31
        go_wp2_with fail
        refine HG.out.mono ?_
        rintro e w1 ⟨rfl, y, rfl⟩
        clear HG
        go_wp2_with fail
        refine (HBad.out _ y.grew).mono ?_
        rintro e w2 ⟨rfl, hR, hK⟩
        have HRK := hid (And.intro hR hK)
        clear hR hK HBad
        go_wp2_with fail
        go_ret
        rw [HR.out]
        exact ⟨rfl, HRK.out⟩
    · rw [show errVal 2 = .iface 66 (.int .i64 2) from rfl] at HG
      clear hok HE
      go_enter Tryz.func31, Tryz.ntmps31
      go_wp2_with fail
      refine HG.out.mono ?_
      rintro e w1 ⟨rfl, y, rfl⟩
      clear HG
      go_wp2_with fail
      refine (HBad.out _ y.grew).mono ?_
      rintro e w2 ⟨rfl, hR, hK⟩
      have HRK := hid (And.intro hR hK)
      clear hR hK HBad
      go_wp2_with fail
      go_ret
      rw [HR.out]
      exact ⟨rfl, HRK.out⟩

def RCountPost (w : World) (lo g : Nat) (r : Int × Pk.St) (e : Ending) (w' : World) : Prop :=
  e = .returned (.int .i64 r.1) ∧ RdAt w' lo g r.2 ∧ Kept (· = g) w w'
theorem count_eq (st : Pk.St) (m : Int) : Pk.count st m = if ((Pk.rest (Pk.int st 0 m).2).length : Int) < (Pk.int st 0 m).1 then (0, none) else Pk.int st 0 m := by
  unfold Pk.count
  generalize hi : Pk.int st 0 m = r
  obtain ⟨n, s⟩ := r
  cases s with
  | some r => rfl
  | none =>
    have : n = 0 := by
      unfold Pk.int at hi
      split at hi
      · simp at hi
      · simp at hi; exact hi.symm
    subst this
    simp [Pk.rest]
set_option maxRecDepth 100000 in
set_option maxHeartbeats 2000000 in
theorem count_c (lo g : Nat) (st : Pk.St) (m : Int) (w : World) (h : RdAt w lo g st) :
    Calls Tryz.prog 69 #[.pointer (some ⟨g, 0, none⟩), .int .i64 m] w (RCountPost w lo g (Pk.count st m)) := by
  have HI := hid (rint_c lo g st 0 m w h)
  have HC := hid (count_eq st m)
  obtain ⟨res, hr⟩ : ∃ res, res = Pk.count st m := ⟨_, rfl⟩
  rw [← hr] at HC ⊢
  generalize Pk.int st 0 m = r at *
  obtain ⟨n, s⟩ := r
  clear h hr
  by_cases hlt : ((Pk.rest s).length : Int) < n
  · have HR := hid (show res = (0, none) by rw [HC.out, if_pos hlt])
    clear HC
    go_enter Tryz.func69, Tryz.ntmps69
    go_wp2_with fail
    refine HI.out.mono ?_
    rintro e w1 ⟨rfl, hR, hK⟩
    obtain ⟨A, c, hB, _⟩ := hR
    have c0 := hB.cell 0
    simp only [List.getElem?_toArray, List.getElem?_cons_zero] at c0
    have HF := hid (fail_c g _ _ w1 hB)
    have HK := hid hK
    clear hB hK HI
    go_wp2_with fail
    refine HF.out.mono ?_
    rintro e w2 ⟨rfl, hB, hK⟩
    have HB := hid hB
    have HK2 := hid hK
    clear hB hK HF
    go_wp2_with fail
    go_ret
    rw [HR.out]
    have := RdAt.failed (lo := lo) (Grew.refl w1) HB.out HK2.out
    exact ⟨rfl, this.1, HK.out.trans this.2⟩
  · have HR := hid (show res = (n, s) by rw [HC.out, if_neg hlt])
    clear HC
    go_enter Tryz.func69, Tryz.ntmps69
    go_wp2_with fail
    refine HI.out.mono ?_
    rintro e w1 ⟨rfl, hR, hK⟩
    have HRK := hid (And.intro hR hK)
    obtain ⟨A, c, hB, _⟩ := hR
    have c0 := hB.cell 0
    simp only [List.getElem?_toArray, List.getElem?_cons_zero] at c0
    clear hB hK HI
    go_wp2_with fail
    go_ret
    rw [HR.out]
    exact ⟨rfl, HRK.out⟩
end Go.Proofs.YtjdgcgpidhljpaaGreatDoor
namespace Go.Proofs.YtjdgcgpidhljpaaGreatDoor
open Go.RowKit

theorem strB_nums (xs : List Nat) : strOfNums (xs.map (fun x : Nat => (x : Int))) = Pk.strB xs := by
  simp [strOfNums, Pk.strB]
theorem conv6 (A : Option Addr) (c : Nat) (xs : List Nat) (w : World) (h : NumsAt .u8 w w.heap.size A xs) : (convert 26 9 (.slice A xs.length c)).run Tryz.prog w = .ok (.string (Pk.strB xs)) w := by
  rw [← strB_nums]
  exact (bytesIn4 w A xs h).convert (by simp) c _ _ _ Tryz.underlying26 Tryz.underlying5 Tryz.underlying9

def RTextPost (w : World) (lo g : Nat) (r : List Nat × Pk.St) (e : Ending) (w' : World) : Prop :=
  e = .returned (.string (Pk.strB r.1)) ∧ RdAt w' lo g r.2 ∧ Kept (· = g) w w'
set_option maxRecDepth 100000 in
set_option maxHeartbeats 2000000 in
theorem rtext_c (lo g : Nat) (st : Pk.St) (m : Int) (w : World) (h : RdAt w lo g st) :
    Calls Tryz.prog 30 #[.pointer (some ⟨g, 0, none⟩), .int .i64 m] w (RTextPost w lo g (Pk.text st m)) := by
  have HI := hid (count_c lo g st m w h)
  have HT : Hid (Pk.text st m = match Pk.count st m with | (n, some r) => (r.take n.toNat, some (r.drop n.toNat)) | (_, none) => ([], none)) := hid rfl
  have HN := hid (fun (n : Int) (r : List Nat) => Pk.count_range (st := st) (m := m) (n := n) (r := r))
  have HZ := hid (show ∀ n, Pk.count st m = (n, none) → n = 0 by
    intro n hn
    rw [count_eq] at hn
    split at hn
    · simp at hn; exact hn.symm
    · unfold Pk.int at hn
      split at hn
      · simp at hn
      · simp at hn; exact hn.symm)
  generalize Pk.text st m = res at *
  generalize Pk.count st m = r at *
  obtain ⟨n, s⟩ := r
  clear h
  have HX : Hid (∃ k : Nat, n = (k : Int) ∧ k ≤ (Pk.rest s).length ∧ (s = none → k = 0) ∧ res = ((Pk.rest s).take k, s.map (·.drop k))) := hid (by
    cases s with
    | none =>
      obtain rfl := HZ.out n rfl
      exact ⟨0, rfl, Nat.zero_le _, fun _ => rfl, by rw [HT.out]; rfl⟩
    | some r =>
      have h := HN.out n r rfl
      refine ⟨n.toNat, by omega, ?_, (fun h => by cases h), by rw [HT.out]; rfl⟩
      simp only [Pk.rest, Option.getD_some]
      omega)
  clear HT HN HZ
  obtain ⟨k, rfl, hk, hs, hres⟩ := HX.out
  have HRes := hid hres
  have HS := hid hs
  clear hres hs HX
  go_enter Tryz.func30, Tryz.ntmps30
  go_wp2_with fail
  refine HI.out.mono ?_
  rintro e w1 ⟨rfl, hR, hK⟩
  have HK := hid hK
  have hlt := hR.lt
  obtain ⟨A, c, hB, hA, hlo, hc, hm⟩ := hR
  have c0 := hB.cell 0
  have f0 := hB.frozen 0
  simp only [List.getElem?_toArray, List.getElem?_cons_zero] at c0
  have HB := hid hB
  have HA := hid hA
  have HLO := hid hlo
  have HC := hid (And.intro hc hm)
  obtain ⟨xs, hxs⟩ : ∃ xs, xs = Pk.rest s := ⟨_, rfl⟩
  rw [← hxs] at c0 HB HA HC hk hA hc hB
  have hcv := conv6 A c (xs.take k) w1 (((NumsAt.of_bytes (hA.wide (Nat.le_of_lt hlt)))).take k)
  rw [List.length_take, Nat.min_eq_left hk] at hcv
  have hq1 : 0 ≤ (k : Int) := by omega
  have hq2 : (k : Int) ≤ xs.length := by omega
  have hq3 : (k : Int) ≤ c := by omega
  have HXS := hid hxs
  have HKL := hid hk
  clear hB hA hlo hc hm hK HI hxs hk
  rcases (by omega : k = c ∨ k < c) with hcap | hcap
  · obtain rfl := hcap
    go_wp2_with fail
    go_ret
    rw [HRes.out]
    have hs := RdAt.step HXS.out rfl HB.out HA.out HLO.out HC.out.1 HC.out.2 (Grew.refl _) k A (xs.length - k) 0 rfl (.inl ⟨rfl, rfl, rfl⟩) HKL.out
    exact ⟨by rw [HXS.out]; rfl, hs.1, HK.out.trans hs.2⟩
  · have t1 : ¬ k = c := by omega
    go_wp2_with fail
    go_ret
    rw [HRes.out]
    have hs := RdAt.step HXS.out rfl HB.out HA.out HLO.out HC.out.1 HC.out.2 (Grew.refl _) k (A.map (·.add k)) (xs.length - k) (c - k) rfl (.inr ⟨rfl, rfl⟩) HKL.out
    exact ⟨by rw [HXS.out]; rfl, hs.1, HK.out.trans hs.2⟩

def RDonePost (w : World) (st : Pk.St) (e : Ending) (w' : World) : Prop :=
  e = .returned (errVal (if st = some [] then 0 else 2)) ∧ w' = w
set_option maxRecDepth 100000 in
set_option maxHeartbeats 2000000 in
theorem rdone_c (lo g : Nat) (st : Pk.St) (w : World) (h : RdAt w lo g st) :
    Calls Tryz.prog 34 #[.pointer (some ⟨g, 0, none⟩)] w (RDonePost w st) := by
  obtain ⟨A, c, hB, _⟩ := h
  have c0 := hB.cell 0
  have c1 := hB.cell 1
  simp only [List.getElem?_toArray, List.getElem?_cons_zero, List.getElem?_cons_succ] at c0 c1
  clear hB
  cases st with
  | none =>
    simp only [Option.isNone_none] at c1
    go_enter Tryz.func34, Tryz.ntmps34
    go_wp2_with fail
    go_ret
    exact ⟨rfl, rfl⟩
  | some r =>
    simp only [Option.isNone_some] at c1
    simp only [Pk.rest, Option.getD_some] at c0
    cases r with
    | nil =>
      go_enter Tryz.func34, Tryz.ntmps34
      go_wp2_with fail
      go_ret
      exact ⟨rfl, rfl⟩
    | cons x r =>
      obtain ⟨n, hn⟩ : ∃ n, n = (x :: r).length := ⟨_, rfl⟩
      have t1 : (0 : Int) < n := by rw [hn]; simp only [List.length_cons]; omega
      rw [← hn] at c0
      clear hn
      have HE := hid (show errVal (if (some (x :: r) : Pk.St) = some [] then 0 else 2) = .iface 66 (.int .i64 2) by rw [if_neg (by simp)]; rfl)
      go_enter Tryz.func34, Tryz.ntmps34
      go_wp2_with fail
      go_ret
      exact ⟨by rw [HE.out]; rfl, rfl⟩
end Go.Proofs.YtjdgcgpidhljpaaGreatDoor
namespace Go.Proofs.YtjdgcgpidhljpaaGreatDoor
open Go.RowKit

theorem v6_int : (Tryz.prog.info? 3).map (fun i => (i.zero, i.size, i.bytes)) = some (some (.int .i64 0), 1, 8) := by kernel_rfl
/-- The cells of a list of ints. -/
def intCellsP (l : List Int) : List Value := l.map (Value.int .i64)
end Go.Proofs.YtjdgcgpidhljpaaGreatDoor

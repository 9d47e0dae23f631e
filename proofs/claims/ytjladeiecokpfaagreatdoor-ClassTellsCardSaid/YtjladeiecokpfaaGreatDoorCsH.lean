/- Stage 10: areDistinct: what has been seen lies in a map. -/
import Derived.Test.YtjladeiecokpfaaGreatDoorCsG
import Derived.Maps.OwnSet
namespace Go.Proofs.YtjladeiecokpfaaGreatDoor
open Go.RowKit Go.Maps

theorem run_makeMapN {P : Program} {t k e : TypeId} (ht : P.underlying t = some (.map k e)) (n : Int) (w : World) : (Instr.makeMap t (some (.int .i64 n))).run P w = .ok (.map (some w.heap.size)) (w.alloc (.map #[] 0)) := by
  simp only [Instr.makeMap, Sem.run_bind, run_underlying ht, Result.andThen_ok]
  rfl
/-- The set of the first ones. -/
def seen {α : Type} (key : α → Lit) (l : List α) (i : Nat) : DataW Unit := setOf (.agg []) ((l.take i).map key)
theorem seen_snoc {α : Type} (key : α → Lit) {l : List α} {i : Nat} {x : α} (h : l[i]? = some x) : seen key l (i + 1) = (seen key l i).put (key x) (.agg []) := by
  unfold seen
  rw [List.take_add_one, h, List.map_append]
  exact setOf_snoc _ _ _
theorem seen_has {α : Type} {key : α → Lit} (hk : ∀ x, WideAt.IsKeyLit (key x)) (hi : ∀ x y, key x = key y → x = y) (l : List α) (i : Nat) (x : α) : Maps.has (seen key l i) (key x) = true ↔ x ∈ l.take i := by
  unfold seen
  rw [has_setOf _ _ _ (fun y hy => by obtain ⟨z, _, rfl⟩ := List.mem_map.1 hy; exact hk z), List.any_eq_true]
  constructor
  · rintro ⟨y, hy, he⟩
    obtain ⟨z, hz, rfl⟩ := List.mem_map.1 hy
    rw [WideAt.sameKey_iff (hk x)] at he
    rw [← hi _ _ he]; exact hz
  · intro h
    exact ⟨key x, List.mem_map.2 ⟨x, h, rfl⟩, WideAt.sameKey_self (hk x)⟩
theorem nodup_not {α : Type} {l : List α} {i : Nat} {x : α} (hx : l[i]? = some x) (h : x ∈ l.take i) : ¬ l.Nodup := by
  intro hn
  obtain ⟨hi, rfl⟩ := List.getElem?_eq_some_iff.1 hx
  have e : l = l.take i ++ l.drop i := (List.take_append_drop i l).symm
  rw [e, List.nodup_append] at hn
  exact hn.2.2 _ h _ (by rw [List.drop_eq_getElem_cons hi]; exact List.mem_cons_self) rfl
theorem nodup_next {α : Type} {l : List α} {i : Nat} {x : α} (hx : l[i]? = some x) (h : x ∉ l.take i) (hn : (l.take i).Nodup) : (l.take (i + 1)).Nodup := by
  rw [List.take_add_one, hx, List.nodup_append]
  refine ⟨hn, by simp, fun a ha b hb => ?_⟩
  rintro rfl
  have : a = x := by simpa using hb
  exact h (by rw [← this]; exact ha)
theorem map_far {H : Type} {P : Program} {k : TypeId} {R : Value → Option (DataW H × List MemPlace)} {w : World} {b n : Nat} {D : DataW H} (h : w.ownsMap P k R b n D) {a : Addr} (ha : b ≠ a.block) (u : Value) : (w.setCell a u).ownsMap P k R b n D := h.setCell ha u
theorem zero_unit_Str (w : World) : (zeroValue 135).run Tryz.prog w = .ok (.agg #[]) w := by kernel_rfl
theorem law_Str : Keyed Tryz.prog 9 := string_keyed Tryz.underlying9
set_option maxRecDepth 100000 in
set_option maxHeartbeats 2000000 in
theorem disStr_c (A : Option Addr) (c : Nat) (l : List ByteArray) (b : Bool) (hb : b = true ↔ l.Nodup) (w : World) (h : StrsAt w w.heap.size A l) (hl : l.length ≤ 1000000) (hs : ∀ s ∈ l, s.size ≤ 2000) :
    Calls Tryz.prog 54 #[.slice A l.length c] w fun e w' => e = .returned (.bool b) ∧ Grew w w' := by
  obtain ⟨n, en⟩ : ∃ n, n = l.length := ⟨_, rfl⟩
  have HA := hid h
  have HB := hid hb
  rw [← en] at hl ⊢
  have EN := hid en
  clear h hb en
  have hmm := run_makeMapN Tryz.underlying134 ((n : Nat) : Int)
  have HKey := hid (show ∀ x y : ByteArray, ((fun s : ByteArray => Lit.string s.data.toList) : ByteArray → Lit) x = ((fun s : ByteArray => Lit.string s.data.toList) : ByteArray → Lit) y → x = y from by
    intro x y hxy
    simp only [Lit.string.injEq] at hxy
    cases x; cases y
    exact congrArg ByteArray.mk (Array.toList_inj.1 hxy))
  go_enter Tryz.func54, Tryz.ntmps54
  go_wp2_with fail
  clear hmm
  go_loopw [5, 6, 7, 13, 17] (fun _ _ _ s13 _ wr => ∃ i : Nat, s13 = .int .i64 ((i : Nat) : Int) ∧ i ≤ n ∧ Hid (wr.ownsMap Tryz.prog 9 unitElem w.heap.size i (seen (fun s : ByteArray => Lit.string s.data.toList) l i)) ∧ Grew w wr ∧ Hid ((l.take i).Nodup) ∧ w.heap.size < wr.heap.size) (fun _ _ _ s13 _ _ => n - (intOf s13).toNat)
  case atStart => exact ⟨0, rfl, Nat.zero_le _, hid (World.ownsMap_made _ _ _ _), (Grew.refl _).alloc _, hid (by simp), by simp⟩
  case round =>
    obtain ⟨i, rfl, hi, HO, hg, HN, hsz⟩ := hrel
    have HG := hid hg
    clear hg
    by_cases hlt : i < n
    · have f1 : (i : Int) < n := by omega
      obtain ⟨ad, x, rfl, hx, q0, hbk⟩ := str_at HA.out HG.out (i := i) (by rw [← EN.out]; exact hlt)
      have hkey : keyOf Tryz.prog 9 (.string x) = some ((fun s : ByteArray => Lit.string s.data.toList) x) := Go.WideMaps.keyOf_string_mk Tryz.underlying9 (by unfold maxLen; have := hs x (List.mem_of_getElem? hx); omega)
      have HX := hid hx
      have HS := hid (seen_has (key := (fun s : ByteArray => Lit.string s.data.toList)) (fun _ => trivial) HKey.out l i x)
      clear hx
      cases hh : Maps.has (seen (fun s : ByteArray => Lit.string s.data.toList) l i) ((fun s : ByteArray => Lit.string s.data.toList) x) with
      | true =>
        have HF := hid (show b = false by
          cases b
          · rfl
          · exact absurd (HB.out.1 rfl) (nodup_not HX.out (HS.out.1 hh)))
        go_wp2_with (first
          | (at_lookup; refine wpList_lookup_own_unit _ rfl _ _ 134 rfl 9 135 law_Str Tryz.underlying134 (zero_unit_Str _) w.heap.size i _ rfl HO.out _ _ rfl hkey ?_; rw [hh])
          | fail)
        go_ret
        exact ⟨by rw [HF.out]; rfl, HG.out.alloc _⟩
      | false =>
        go_wp2_with (first
          | (at_lookup; refine wpList_lookup_own_unit _ rfl _ _ 134 rfl 9 135 law_Str Tryz.underlying134 (zero_unit_Str _) w.heap.size i _ rfl HO.out _ _ rfl hkey ?_; rw [hh])
          | (at_mapUpdate; refine wpList_mapUpdate_own _ rfl _ _ _ 134 rfl 9 135 law_Str Tryz.underlying134 (unitElem (H := Unit)) w.heap.size i _ rfl (HO.out.alloc _) (by unfold maxLen; omega) _ _ _ rfl rfl hkey _ [] unitElem_mk ?_; intro w1 hown1 hgrow1; have HO1 := hid hown1; have HG1 := hid hgrow1; clear hown1 hgrow1)
          | fail)
        go_round
        case rel =>
          refine ⟨i + 1, by go_num, by omega, hid (by rw [seen_snoc _ HX.out]; exact HO1.out), ?_, hid (nodup_next HX.out (fun hm => by rw [HS.out.2 hm] at hh; cases hh) HN.out), ?_⟩
          · exact .mk ((HG.out.alloc _).below.grown HG1.out (HG.out.alloc _).below.size (fun j hj => by cases hj; exact Nat.le_refl _))
          · have := HG1.out.size
            simp at this
            omega
        case measure => simp [intOf]; omega
    · have hin : i = n := by omega
      subst hin
      have HT := hid (show b = true by
        have := HN.out
        rw [EN.out, List.take_length] at this
        exact HB.out.2 this)
      go_wp2_with fail
      go_ret
      exact ⟨by rw [HT.out]; rfl, HG.out⟩
theorem zero_unit_Int (w : World) : (zeroValue 135).run Tryz.prog w = .ok (.agg #[]) w := by kernel_rfl
theorem law_Int : Keyed Tryz.prog 3 := int_keyed Tryz.underlying3
set_option maxRecDepth 100000 in
set_option maxHeartbeats 2000000 in
theorem disInt_c (A : Option Addr) (c : Nat) (l : List Int) (b : Bool) (hb : b = true ↔ l.Nodup) (w : World) (h : IntsAt w w.heap.size A l) (hl : l.length ≤ 1000000) :
    Calls Tryz.prog 57 #[.slice A l.length c] w fun e w' => e = .returned (.bool b) ∧ Grew w w' := by
  obtain ⟨n, en⟩ : ∃ n, n = l.length := ⟨_, rfl⟩
  have HA := hid h
  have HB := hid hb
  rw [← en] at hl ⊢
  have EN := hid en
  clear h hb en
  have hmm := run_makeMapN Tryz.underlying137 ((n : Nat) : Int)
  have HKey := hid (show ∀ x y : Int, ((fun z : Int => Lit.int .i64 z) : Int → Lit) x = ((fun z : Int => Lit.int .i64 z) : Int → Lit) y → x = y from by
    intro x y hxy
    simpa using hxy)
  go_enter Tryz.func57, Tryz.ntmps57
  go_wp2_with fail
  clear hmm
  go_loopw [5, 6, 7, 13, 17] (fun _ _ _ s13 _ wr => ∃ i : Nat, s13 = .int .i64 ((i : Nat) : Int) ∧ i ≤ n ∧ Hid (wr.ownsMap Tryz.prog 3 unitElem w.heap.size i (seen (fun z : Int => Lit.int .i64 z) l i)) ∧ Grew w wr ∧ Hid ((l.take i).Nodup) ∧ w.heap.size < wr.heap.size) (fun _ _ _ s13 _ _ => n - (intOf s13).toNat)
  case atStart => exact ⟨0, rfl, Nat.zero_le _, hid (World.ownsMap_made _ _ _ _), (Grew.refl _).alloc _, hid (by simp), by simp⟩
  case round =>
    obtain ⟨i, rfl, hi, HO, hg, HN, hsz⟩ := hrel
    have HG := hid hg
    clear hg
    by_cases hlt : i < n
    · have f1 : (i : Int) < n := by omega
      obtain ⟨ad, x, rfl, hx, q0, hbk⟩ := int_at HA.out HG.out (i := i) (by rw [← EN.out]; exact hlt)
      have hkey : keyOf Tryz.prog 3 (.int .i64 x) = some ((fun z : Int => Lit.int .i64 z) x) := keyOf_int_mk Tryz.underlying3 (WalkArith.wf_i64 (by have := HA.out.1 x (List.mem_of_getElem? hx); unfold Vi.I64 at this; omega))
      have HX := hid hx
      have HS := hid (seen_has (key := (fun z : Int => Lit.int .i64 z)) (fun _ => trivial) HKey.out l i x)
      clear hx
      cases hh : Maps.has (seen (fun z : Int => Lit.int .i64 z) l i) ((fun z : Int => Lit.int .i64 z) x) with
      | true =>
        have HF := hid (show b = false by
          cases b
          · rfl
          · exact absurd (HB.out.1 rfl) (nodup_not HX.out (HS.out.1 hh)))
        go_wp2_with (first
          | (at_lookup; refine wpList_lookup_own_unit _ rfl _ _ 137 rfl 3 135 law_Int Tryz.underlying137 (zero_unit_Int _) w.heap.size i _ rfl HO.out _ _ rfl hkey ?_; rw [hh])
          | fail)
        go_ret
        exact ⟨by rw [HF.out]; rfl, HG.out.alloc _⟩
      | false =>
        go_wp2_with (first
          | (at_lookup; refine wpList_lookup_own_unit _ rfl _ _ 137 rfl 3 135 law_Int Tryz.underlying137 (zero_unit_Int _) w.heap.size i _ rfl HO.out _ _ rfl hkey ?_; rw [hh])
          | (at_mapUpdate; refine wpList_mapUpdate_own _ rfl _ _ _ 137 rfl 3 135 law_Int Tryz.underlying137 (unitElem (H := Unit)) w.heap.size i _ rfl (HO.out.alloc _) (by unfold maxLen; omega) _ _ _ rfl rfl hkey _ [] unitElem_mk ?_; intro w1 hown1 hgrow1; have HO1 := hid hown1; have HG1 := hid hgrow1; clear hown1 hgrow1)
          | fail)
        go_round
        case rel =>
          refine ⟨i + 1, by go_num, by omega, hid (by rw [seen_snoc _ HX.out]; exact HO1.out), ?_, hid (nodup_next HX.out (fun hm => by rw [HS.out.2 hm] at hh; cases hh) HN.out), ?_⟩
          · exact .mk ((HG.out.alloc _).below.grown HG1.out (HG.out.alloc _).below.size (fun j hj => by cases hj; exact Nat.le_refl _))
          · have := HG1.out.size
            simp at this
            omega
        case measure => simp [intOf]; omega
    · have hin : i = n := by omega
      subst hin
      have HT := hid (show b = true by
        have := HN.out
        rw [EN.out, List.take_length] at this
        exact HB.out.2 this)
      go_wp2_with fail
      go_ret
      exact ⟨by rw [HT.out]; rfl, HG.out⟩
end Go.Proofs.YtjladeiecokpfaaGreatDoor

/- The walks of package pack, writing: Int, Ints, Text. -/
import Derived.Test.YtglekjhbpdoofaaDoorPk6
import Derived.Test.YtglekjhbpdoofaaDoorList04
import Derived.Laws.IdiomStrings
namespace Go.Proofs.YtglekjhbpdoofaaDoor
open Go.RowKit

theorem IntsAt.kept {F : Nat → Prop} {w w' : World} {B : Nat} {A : Option Addr} {l : List Int} (h : IntsAt w B A l) (hk : Kept F w w') (hB : B ≤ w.heap.size) (hF : ∀ ad, A = some ad → 0 < l.length → ¬ F ad.block) : IntsAt w' B A l := by
  refine ⟨h.1, fun hn => ?_⟩
  obtain ⟨ad, e, hb, hc⟩ := h.2 hn
  refine ⟨ad, e, hb, fun j hj => ?_⟩
  rw [hk.cell (by rw [block_add]; omega) (by rw [block_add]; exact hF ad e hn)]
  exact hc j hj
theorem IntsAt.wide {w : World} {B B' : Nat} {A : Option Addr} {l : List Int} (h : IntsAt w B A l) (hB : B ≤ B') : IntsAt w B' A l := by
  refine ⟨h.1, fun hn => ?_⟩
  obtain ⟨ad, e, hb, hc⟩ := h.2 hn
  exact ⟨ad, e, Nat.lt_of_lt_of_le hb hB, hc⟩
/-- 'bs' were written behind 'xs'. -/
def Wrote (w : World) (B g : Nat) (xs bs : List Nat) (Y : Nat → Prop) (w' : World) : Prop :=
  ∃ Y2, WrAt w' B g (xs ++ bs) Y2 ∧ (∀ k, Y2 k → Y k ∨ w.heap.size ≤ k) ∧ Kept Y w w'
theorem Wrote.refl {w : World} {B g : Nat} {xs : List Nat} {Y : Nat → Prop} (h : WrAt w B g xs Y) : Wrote w B g xs [] Y w := ⟨Y, by rw [List.append_nil]; exact h, fun _ h => .inl h, Kept.refl _ _⟩
theorem Wrote.then {w w1 w2 : World} {B g : Nat} {xs bs cs ds : List Nat} {Y Y1 : Nat → Prop} (hY : ∀ k, Y1 k → Y k ∨ w.heap.size ≤ k) (hk : Kept Y w w1) (h : Wrote w1 B g (xs ++ bs) cs Y1 w2) (hd : ds = bs ++ cs) : Wrote w B g xs ds Y w2 := by
  subst hd
  obtain ⟨Y2, h1, h2, h3⟩ := h
  refine ⟨Y2, by rw [← List.append_assoc]; exact h1, fun k hk2 => ?_, hk.next h3 (fun i hi hy => (hY i hy).resolve_right (by omega))⟩
  rcases h2 k hk2 with h | h
  · exact hY k h
  · exact .inr (Nat.le_trans hk.size h)
theorem AddPost.wrote {w w' : World} {B g : Nat} {xs bs : List Nat} {Y : Nat → Prop} {e : Ending} (h : AddPost w B g xs bs Y e w') : e = .returned (.tuple #[]) ∧ Wrote w B g xs bs Y w' := h
def WroteR (w : World) (B g : Nat) (xs bs : List Nat) (Y : Nat → Prop) (e : Ending) (w' : World) : Prop := e = .returned (.tuple #[]) ∧ Wrote w B g xs bs Y w'

theorem Wrote.grew_first {w w1 w2 : World} {B g : Nat} {xs bs : List Nat} {Y : Nat → Prop} (hg : Grew w w1) (h : Wrote w1 B g xs bs Y w2) : Wrote w B g xs bs Y w2 := by
  obtain ⟨Y2, h1, h2, h3⟩ := h
  exact ⟨Y2, h1, fun k hk => (h2 k hk).imp id (fun h => Nat.le_trans hg.below.size h), (Kept.of_grew hg).trans h3⟩
/-- A number is put and added. -/
theorem own_far {w w' : World} {e : TypeId} {A : Option Addr} {c : Nat} {L : List Nat} {g : Nat} (h : OwnNums .u8 w w' e A c L) (hg : g < w.heap.size) : ∀ ad, A = some ad → ad.block ≠ g := by
  intro ad had
  rcases h.cases with ⟨h0, _⟩ | ⟨q, h1, h2, _⟩
  · rw [h0] at had; cases had
  · rw [h1] at had; cases had
    have : q ≠ g := by omega
    exact this

set_option maxRecDepth 100000 in
set_option maxHeartbeats 2000000 in
theorem wint_nil_c (A : Option Addr) (c : Nat) (l : List Int) (w : World) (ha : IntsAt w w.heap.size A l) (hm : l.length ≤ 1000000000000) :
    Calls Tryd.prog 22 #[.pointer none, .slice A l.length c] w fun e w' => e = .returned (.tuple #[]) ∧ Grew w w' := by
  have HA := hid ha
  clear ha
  obtain ⟨n, en⟩ : ∃ n, n = l.length := ⟨_, rfl⟩
  rw [← en] at hm ⊢
  have EN := hid en
  clear en
  go_enter Tryd.func22, Tryd.ntmps22
  go_wp2_with fail
  go_loopw [5, 8] (fun s5 s8 wr => ∃ (i : Nat) (v : Value), s5 = v ∧ s8 = .int .i64 ((i : Nat) : Int) ∧ i ≤ n ∧ Grew w wr) (fun _ s8 _ => n - (intOf s8).toNat)
  case atStart => exact ⟨0, _, rfl, rfl, Nat.zero_le _, Grew.refl _⟩
  case round =>
    obtain ⟨i, v, rfl, rfl, hi, hg⟩ := hrel
    by_cases hlt : i < n
    · have f1 : (i : Int) < n := by omega
      obtain ⟨ad, rfl, hb, hcell⟩ := (HA.out.grew hg).2 (by rw [← EN.out]; omega)
      have hx := hcell i (by rw [← EN.out]; exact hlt)
      have hx64 := HA.out.i64 i
      generalize l.getD i 0 = x at *
      have CP := hid (put_c none 0 [] x wr (NumsAt.nil _ _ _ _) hx64 (by simp))
      rw [List.length_nil] at CP
      clear hcell hb
      go_wp2_with fail
      refine CP.out.mono ?_
      rintro e w1 ⟨G2, h2, L2, rfl, hO2, hL2, hg2⟩
      clear hO2 hL2 CP
      have hg3 := hid (hg.trans hg2)
      clear hg hg2
      go_wp2_with fail
      refine (add_nil_c _ _ _ _).mono ?_
      rintro e w2 ⟨rfl, rfl⟩
      go_wp2_with fail
      go_roundw
      case rel => exact ⟨i + 1, _, rfl, by go_num, by omega, hg3.out⟩
      case measure => simp [intOf]; omega
    · obtain rfl : i = n := by omega
      go_wp2_with fail
      go_end0
      exact ⟨rfl, hg⟩
set_option maxRecDepth 100000 in
set_option maxHeartbeats 2000000 in
theorem wint_c (B g : Nat) (xs : List Nat) (Y : Nat → Prop) (A : Option Addr) (c : Nat) (l : List Int) (w : World) (h : WrAt w B g xs Y) (hB : B ≤ w.heap.size) (ha : IntsAt w w.heap.size A l) (hd : ∀ ad, A = some ad → 0 < l.length → ¬ Y ad.block) (hl : xs.length + 10 * l.length ≤ 1000000000000) :
    Calls Tryd.prog 22 #[.pointer (some ⟨g, 0, none⟩), .slice A l.length c] w (WroteR w B g xs (Pk.encs l) Y) := by
  have HA := hid ha
  have HD := hid hd
  have HW := hid h
  have HL := hid hl
  obtain ⟨n, en⟩ : ∃ n, n = l.length := ⟨_, rfl⟩
  have hm : n ≤ 1000000000000 := by omega
  clear ha hd h hl
  rw [← en]
  have EN := hid en
  clear en
  go_enter Tryd.func22, Tryd.ntmps22
  go_wp2_with fail
  go_loopw [5, 8] (fun s5 s8 wr => ∃ (i : Nat) (v : Value), s5 = v ∧ s8 = .int .i64 ((i : Nat) : Int) ∧ i ≤ n ∧ Hid (Wrote w B g xs (Pk.encs (l.take i)) Y wr)) (fun _ s8 _ => n - (intOf s8).toNat)
  case atStart => exact ⟨0, _, rfl, rfl, Nat.zero_le _, hid (Wrote.refl HW.out)⟩
  case round =>
    obtain ⟨i, v, rfl, rfl, hi, H⟩ := hrel
    obtain ⟨Y1, hW1, hY1, hK1⟩ := H.out
    by_cases hlt : i < n
    · have f1 : (i : Int) < n := by omega
      obtain ⟨ad, rfl, hb, hcell⟩ := (HA.out.kept hK1 (Nat.le_refl _) HD.out).2 (by rw [← EN.out]; omega)
      have hx := hcell i (by rw [← EN.out]; exact hlt)
      have hx64 := HA.out.i64 i
      have HT := hid (show Pk.encs (l.take (i + 1)) = Pk.encs (l.take i) ++ Vi.enc (l.getD i 0) by rw [ints_take (by rw [← EN.out]; exact hlt), Pk.encs_snoc])
      have HTL := hid (show (Pk.encs (l.take i)).length ≤ 10 * i by
        have := (Pk.encs_len (l.take i)).2
        rw [List.length_take] at this
        omega)
      have hxl := (Vi.enc_len (l.getD i 0)).2
      generalize l.getD i 0 = x at *
      have CP := hid (put_c none 0 [] x wr (NumsAt.nil _ _ _ _) hx64 (by simp))
      rw [List.length_nil] at CP
      have HXL := hid hxl
      have HW1 := hid hW1
      have HY1 := hid hY1
      have HK1 := hid hK1
      clear hcell hb hW1 hY1 hK1 hxl H
      go_wp2_with fail
      refine CP.out.mono ?_
      rintro e w1 ⟨G2, h2, L2, rfl, hO2, hL2, hg2⟩
      have CA := hid (add_c B g (xs ++ Pk.encs (l.take i)) Y1 G2 h2 L2 w1 (HW1.out.grew hg2) (Nat.le_trans hB (Nat.le_trans HK1.out.size hg2.below.size)) hO2.at (own_far hO2 HW1.out.lt) (by rw [hL2]; exact Vi.enc_byte x) (by
        have h1 := HL.out
        have h2 := HXL.out
        have h3 := HTL.out
        have h4 := EN.out
        rw [hL2, List.nil_append, List.length_append]
        omega))
      have HL2 := hid (show L2 = Vi.enc x by rw [hL2]; rfl)
      have HG2 := hid hg2
      clear hO2 hL2 hg2 CP
      go_wp2_with fail
      refine CA.out.mono ?_
      rintro e w2 ⟨rfl, hw2⟩
      have HEnd := hid (Wrote.then HY1.out HK1.out (Wrote.grew_first HG2.out hw2) (show Pk.encs (l.take (i + 1)) = _ by rw [HT.out, ← HL2.out]))
      clear hw2 CA
      go_wp2_with fail
      go_roundw
      case rel => exact ⟨i + 1, _, rfl, by go_num, by omega, hid HEnd.out⟩
      case measure => simp [intOf]; omega
    · obtain rfl : i = n := by omega
      clear hW1 hY1 hK1
      go_wp2_with fail
      go_end0
      refine ⟨rfl, ?_⟩
      have := H.out
      rwa [List.take_of_length_le (by rw [← EN.out]; omega)] at this
theorem ints_one (w : World) (t : TypeId) (x : Int) (hx : Vi.I64 x) : IntsAt (w.alloc (.cells #[.int .i64 x] t)) (w.alloc (.cells #[.int .i64 x] t)).heap.size (some ⟨w.heap.size, 0, none⟩) [x] := by
  refine ⟨fun y hy => by rw [List.mem_singleton.1 hy]; exact hx, fun _ => ⟨_, rfl, by simp, fun j hj => ?_⟩⟩
  obtain rfl : j = 0 := by simpa using hj
  rw [add_zero]
  simp
theorem encs_one (x : Int) : Pk.encs [x] = Vi.enc x := by simp [Pk.encs]

set_option maxRecDepth 100000 in
set_option maxHeartbeats 2000000 in
theorem wints_c (B g : Nat) (xs : List Nat) (Y : Nat → Prop) (A : Option Addr) (c : Nat) (l : List Int) (w : World) (h : WrAt w B g xs Y) (hB : B ≤ w.heap.size) (ha : IntsAt w w.heap.size A l) (hd : ∀ ad, A = some ad → 0 < l.length → ¬ Y ad.block ∧ ad.block < w.heap.size) (hl : xs.length + 10 * l.length + 10 ≤ 1000000000000) :
    Calls Tryd.prog 23 #[.pointer (some ⟨g, 0, none⟩), .slice A l.length c] w (WroteR w B g xs (Vi.enc (l.length : Int) ++ Pk.encs l) Y) := by
  have C1 := hid (wint_c B g xs Y (some ⟨w.heap.size, 0, none⟩) 1 [(l.length : Int)] (w.alloc (.cells #[.int .i64 (l.length : Int)] 3)) (h.grew ((Grew.refl w).alloc _)) (by simp only [World.size_alloc]; omega) (ints_one w _ _ (by unfold Vi.I64; omega)) (fun ad had _ hy => by
    cases had
    have := (h.1 _ hy).2
    simp at this) (by simp only [List.length_singleton]; omega))
  rw [encs_one, List.length_singleton] at C1
  have C2 := hid (fun (w1 : World) (Y1 : Nat → Prop) (h1 : WrAt w1 B g (xs ++ Vi.enc (l.length : Int)) Y1) (hY : ∀ k, Y1 k → Y k ∨ w.heap.size ≤ k) (hk : Kept Y w w1) =>
    wint_c B g _ Y1 A c l w1 h1 (Nat.le_trans hB hk.size) ((ha.kept hk (Nat.le_refl _) (fun ad e hn => (hd ad e hn).1)).wide hk.size) (fun ad e hn hy => by
      have := hd ad e hn
      rcases hY _ hy with h2 | h2
      · exact this.1 h2
      · omega) (by
      have := (Vi.enc_len (l.length : Int)).2
      rw [List.length_append]
      omega))
  clear h ha hd hl
  obtain ⟨n, en⟩ : ∃ n, n = l.length := ⟨_, rfl⟩
  rw [← en] at C1 C2 ⊢
  clear en
  go_enter Tryd.func23, Tryd.ntmps23
  go_wp2_with fail
  refine C1.out.mono ?_
  rintro e w1 ⟨rfl, hw⟩
  obtain ⟨Y1, h1, h2, h3⟩ := Wrote.grew_first ((Grew.refl w).alloc _) hw
  have C3 := hid (C2.out w1 Y1 h1 h2 h3)
  have H2 := hid h2
  have H3 := hid h3
  clear hw h1 h2 h3 C1 C2
  go_wp2_with fail
  refine C3.out.mono ?_
  rintro e w2 ⟨rfl, hw⟩
  have HE := hid (Wrote.then H2.out H3.out hw rfl)
  clear hw C3
  go_wp2_with fail
  go_end0
  exact ⟨rfl, HE.out⟩

theorem nums_conv (w : World) (s : ByteArray) (cap : Nat) (r : Nat × Nat) (t : TypeId) : NumsAt .u8 (w.drew.alloc (.cells (bytesRow s cap) t r)) (w.drew.alloc (.cells (bytesRow s cap) t r)).heap.size (some ⟨w.heap.size, 0, none⟩) (Pk.natsOf s) := by
  intro hn
  refine ⟨_, rfl, by simp, fun j hj => ?_⟩
  have hj2 : j < s.size := by rw [← Pk.natsOf_len]; exact hj
  have e1 : (⟨w.heap.size, 0, none⟩ : Addr).add j = ⟨w.heap.size, j, none⟩ := by simp [Addr.add]; omega
  rw [e1]
  have e2 : (w.drew.alloc (.cells (bytesRow s cap) t r)).heap[w.heap.size]? = some (.cells (bytesRow s cap) t r) := heap_alloc_new w.drew _
  unfold World.cell?
  simp only [e2]
  have hsz : s.data.size = s.size := rfl
  unfold bytesRow
  rw [Array.getElem?_append_left (by rw [Array.size_map, hsz]; exact hj2), Array.getElem?_map, Array.getElem?_eq_getElem (by rw [hsz]; exact hj2)]
  simp only [Option.map_some, Pk.natsOf, List.getD_eq_getElem?_getD]
  rw [List.getElem?_map, List.getElem?_eq_getElem (by rw [Array.length_toList, hsz]; exact hj2)]
  simp

set_option maxRecDepth 100000 in
set_option maxHeartbeats 2000000 in
theorem wtext_c (B g : Nat) (xs : List Nat) (Y : Nat → Prop) (s : ByteArray) (w : World) (h : WrAt w B g xs Y) (hB : B ≤ w.heap.size) (hl : xs.length + s.size + 10 ≤ 1000000000000) :
    Calls Tryd.prog 7 #[.pointer (some ⟨g, 0, none⟩), .string s] w (WroteR w B g xs (Vi.enc (s.size : Int) ++ Pk.natsOf s) Y) := by
  have C1 := hid (wint_c B g xs Y (some ⟨w.heap.size, 0, none⟩) 1 [(s.size : Int)] (w.alloc (.cells #[.int .i64 (s.size : Int)] 3)) (h.grew ((Grew.refl w).alloc _)) (by simp only [World.size_alloc]; omega) (ints_one w _ _ (by unfold Vi.I64; omega)) (fun ad had _ hy => by
    cases had
    have := (h.1 _ hy).2
    simp at this) (by simp only [List.length_singleton]; omega))
  rw [encs_one, List.length_singleton] at C1
  have C2 := hid (fun (w1 : World) (Y1 : Nat → Prop) (h1 : WrAt w1 B g (xs ++ Vi.enc (s.size : Int)) Y1) (hw : w.heap.size ≤ w1.heap.size) (cap : Nat) (r : Nat × Nat) =>
    add_c B g (xs ++ Vi.enc (s.size : Int)) Y1 (some ⟨w1.heap.size, 0, none⟩) cap (Pk.natsOf s) (w1.drew.alloc (.cells (bytesRow s cap) 5 r)) (h1.grew ((Grew.refl w1).drew.alloc _)) (by simp only [World.size_alloc]; exact Nat.le_trans hB (Nat.le_trans hw (Nat.le_succ w1.heap.size))) (nums_conv w1 s cap r _) (fun ad had => by
      cases had
      have := h1.lt
      simp only
      omega) (Pk.natsOf_byte s) (by
      have := (Vi.enc_len (s.size : Int)).2
      rw [List.length_append, Pk.natsOf_len]
      omega))
  rw [Pk.natsOf_len] at C2
  have HC := hid (fun (w1 : World) => run_bytes_of_string (P := Tryd.prog) w1 9 23 5 s Tryd.underlying9 Tryd.underlying23 Tryd.underlying5)
  clear h hl
  go_enter Tryd.func7, Tryd.ntmps7
  go_wp2_with fail
  refine C1.out.mono ?_
  rintro e w1 ⟨rfl, hw⟩
  obtain ⟨Y1, h1, h2, h3⟩ := Wrote.grew_first ((Grew.refl w).alloc _) hw
  have C3 := hid (C2.out w1 Y1 h1 h3.size)
  have hcv := HC.out w1
  have H2 := hid h2
  have H3 := hid h3
  clear hw h1 h2 h3 C1 C2 HC
  go_wp2_with fail
  refine (C3.out _ _).mono ?_
  rintro e w2 ⟨rfl, hw⟩
  have HE := hid (Wrote.then H2.out H3.out (Wrote.grew_first ((Grew.refl w1).drew.alloc _) hw) rfl)
  clear hw C3 hcv
  go_wp2_with fail
  go_end0
  exact ⟨rfl, HE.out⟩
end Go.Proofs.YtglekjhbpdoofaaDoor

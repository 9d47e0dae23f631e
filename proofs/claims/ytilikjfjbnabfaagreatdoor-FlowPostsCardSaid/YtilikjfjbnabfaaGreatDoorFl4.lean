/- Stage 8: the program's own isJoin and graph. -/
import Derived.Test.YtilikjfjbnabfaaGreatDoorFl3
namespace Go.Proofs.YtilikjfjbnabfaaGreatDoor
open Go.RowKit

theorem place_lt {os : List Nat} {x : Int} (k : Nat) (h : Fl.place os x = some k) : k < os.length := by
  unfold Fl.place at h
  split at h
  · rename_i hc
    cases h
    have hm : x ∈ Fl.toI os := by simpa using hc
    have : (Fl.toI os).countP (· < x) < (Fl.toI os).length := by
      rcases Nat.lt_or_ge ((Fl.toI os).countP (· < x)) (Fl.toI os).length with h1 | h1
      · exact h1
      · have h2 := List.countP_eq_length.1 (Nat.le_antisymm List.countP_le_length h1) x hm
        simp at h2
    rwa [toI_len] at this
  · cases h
set_option maxRecDepth 100000 in
set_option maxHeartbeats 1000000 in
theorem join_c (A1 : Option Addr) (c1 : Nat) (A2 : Option Addr) (c2 n : Nat) (l : List Op7.Ins) (os : List Nat) (x : Int) (w : World) (h : CodeAt w A1 A2 c2 n l os) :
    Calls Tryz.prog 45 #[.agg #[.slice A1 n c1, .slice A2 n c2], .int .i64 x] w (fun e w' => e = .returned (.bool (Fl.isJoin l os x)) ∧ Grew w w') := by
  have H := hid h
  have HI : Hid (Fl.isJoin l os x = match Fl.place os x with | none => false | some k => ((l[k]?).map (·.code)).getD 0 == 15) := hid rfl
  have HP := hid (fun k => @place_lt os x k)
  have HG := hid (((Grew.refl w).alloc (.cells #[.slice A1 n c1, .slice A2 n c2] 54)))
  clear h
  go_enter Tryz.func45, Tryz.ntmps45
  go_wp2_with fail
  refine (code_at (H.out.grew HG.out) x n c1).mono ?_
  rintro e w2 ⟨k, b, rfl, hr, y2, rfl⟩
  have HR := hid hr
  clear hr
  cases b
  · have HX : Hid (Fl.isJoin l os x = false) := hid (by rw [HI.out, HR.out]; rfl)
    go_wp2_with fail
    go_ret
    exact ⟨by rw [HX.out]; rfl, HG.out.trans y2.grew⟩
  · have hk : k < n := by rw [H.out.l2]; exact HP.out k (by rw [HR.out]; rfl)
    obtain ⟨o, ho⟩ : ∃ o, l[k]? = some o := ⟨_, List.getElem?_eq_getElem (show k < l.length by rw [← H.out.l1]; exact hk)⟩
    obtain ⟨ad, rfl, hb, hc⟩ := H.out.ops.2 (by rw [← H.out.l1]; omega)
    obtain ⟨q0, _, _⟩ := op_cell (o := o) (i := k) (ad := ad) (w := y2.w) (fun j u hu => by
      rw [(HG.out.trans y2.grew).below.cell (by rw [block_add]; exact hb)]; exact hc k o ho j u hu)
    have HX : Hid (Fl.isJoin l os x = (o.code == 15)) := hid (by rw [HI.out, HR.out]; simp [ho])
    have HE : Hid ((((o.code : Nat) : Int) == 15) = (o.code == 15)) := hid (by rw [Bool.eq_iff_iff]; simp; omega)
    have f1 : (k : Int) < n := by omega
    clear hc ho
    generalize o.code = cd at *
    go_wp2_with fail
    go_ret
    exact ⟨by rw [HX.out]; exact ret_bool HE.out, HG.out.trans y2.grew⟩

/-- A row from a block known whole. -/
theorem Row.of_blk {w : World} {B g : Nat} {e : TypeId} {s n : Nat} {cs : Array Value} (h : Blk w g e cs) (hB : B ≤ g) (hn : cs.size = n * s) (hm : n ≤ 9223372036854775807) : Row w B e s (some ⟨g, 0, none⟩) n n cs.toList :=
  ⟨by simpa using hn, .inr ⟨g, n, cs, rfl, hB, h, Nat.le_refl _, by simp only [maxLen]; omega, hn, by rw [List.take_of_length_le (by simp; omega)]⟩⟩
theorem slice_info : (Tryz.prog.info? 24).map (fun i => (i.zero, i.size, i.bytes)) = some (some (.slice none 0 0), 1, 24) := by kernel_rfl
/-- 'make([]T, n)', T of one cell. -/
theorem make_one {P : Program} {t e : TypeId} {z : Value} {b : Nat} (ht : P.underlying t = some (.slice e)) (he : (P.info? e).map (fun i => (i.zero, i.size, i.bytes)) = some (some z, 1, b)) (hz : z.cells = #[z]) (hb : b ≤ 24)
    (n : Nat) (hn : n ≤ 1048576) (W : World) : ∃ w', (Instr.makeSlice t (.int .i64 n) (.int .i64 n)).run P W = .ok (.slice (some ⟨W.heap.size, 0, none⟩) n n) w' ∧ Row w' W.heap.size e 1 (some ⟨W.heap.size, 0, none⟩) n n (List.replicate n z) ∧ Grew W w' ∧ W.heap.size < w'.heap.size := by
  obtain ⟨i, hi, hz0, hz1, hz2⟩ := info_parts he
  have hm : n * b ≤ n * 24 := Nat.mul_le_mul_left n hb
  have hm2 : (b : Int) * (n : Int) ≤ 24 * n := by rw [← Int.natCast_mul, Nat.mul_comm]; omega
  have hr := run_make (P := P) W t e i z ht hi hz0 .i64 .i64 n n (by omega) (by omega) (by rw [hz2]; omega) (by omega)
  simp only [Int.toNat_natCast] at hr
  have e1 : (madeCells z.cells (n * i.size)).toList = List.replicate n z := by
    rw [hz1, Nat.mul_one, hz]
    exact toList_madeCells_one _ _
  refine ⟨_, hr, ?_, (Grew.refl W).alloc _, by simp⟩
  have := Row.of_blk (s := 1) (n := n) (B := W.heap.size) (Blk.new W e (madeCells z.cells (n * i.size))) (Nat.le_refl _) (by rw [← Array.length_toList, e1]; simp) (by omega)
  rwa [e1] at this
/-- The graph in memory. -/
structure GraphAt (w : World) (B g c : Nat) (vs : List Value) (G : List (List Nat)) : Prop where
  row : Row w B 24 1 (some ⟨g, 0, none⟩) vs.length c vs
  each : ∀ (i : Nat) (s : List Nat), G[i]? = some s → ∃ A k, vs[i]? = some (Value.slice A s.length k) ∧ RowN w (g + 1) A k s
theorem GraphAt.grew {w w' : World} {B g c : Nat} {vs : List Value} {G : List (List Nat)} (h : GraphAt w B g c vs G) (hg : Grew w w') : GraphAt w' B g c vs G :=
  ⟨h.row.grew hg, fun i s hs => by obtain ⟨A, k, h1, h2⟩ := h.each i s hs; exact ⟨A, k, h1, h2.grew hg⟩⟩
theorem Row.lt' {w : World} {B : Nat} {e : TypeId} {s g n c : Nat} {vs : List Value} (h : Row w B e s (some ⟨g, 0, none⟩) n c vs) : B ≤ g ∧ g < w.heap.size := ⟨Row.at_base h g ⟨_, rfl, rfl⟩, Row.at_lt h g ⟨_, rfl, rfl⟩⟩
theorem Row.set {w : World} {B g n c : Nat} {e : TypeId} {vs : List Value} (h : Row w B e 1 (some ⟨g, 0, none⟩) n c vs) (j : Nat) (u : Value) : Row (w.setCell ⟨g, j, none⟩ u) B e 1 (some ⟨g, 0, none⟩) n c (vs.set j u) := (World.ownsRow.stored h j u).1
theorem GraphAt.next {w : World} {B g c : Nat} {vs : List Value} {G : List (List Nat)} (h : GraphAt w B g c vs G) (hl : G.length < vs.length) (A : Option Addr) (k : Nat) (s : List Nat) (hs : RowN w (g + 1) A k s) :
    GraphAt (w.setCell ⟨g, G.length, none⟩ (.slice A s.length k)) B g c (vs.set G.length (.slice A s.length k)) (G ++ [s]) := by
  have hk : Kept (fun x => x = g) w (w.setCell ⟨g, G.length, none⟩ (Value.slice A s.length k)) := (Kept.refl (fun x => x = g) w).setCell (p := ⟨g, G.length, none⟩) (fun _ => rfl) _
  refine ⟨by rw [List.length_set]; exact h.row.set _ _, fun i s' hs' => ?_⟩
  have far : ∀ {A' : Option Addr} {k' : Nat} {s' : List Nat}, RowN w (g + 1) A' k' s' → RowN (w.setCell ⟨g, G.length, none⟩ (.slice A s.length k)) (g + 1) A' k' s' := fun hr => Row.kept hr hk fun g' hg' e => by
    subst hg'
    have := (Row.lt' hr).1
    omega
  rcases Nat.lt_or_ge i G.length with hi | hi
  · rw [List.getElem?_append_left hi] at hs'
    obtain ⟨A', k', h1, h2⟩ := h.each i s' hs'
    exact ⟨A', k', by rw [List.getElem?_set_ne (by omega)]; exact h1, far h2⟩
  · have hi' : i < (G ++ [s]).length := (List.getElem?_eq_some_iff.1 hs').1
    rw [List.length_append, List.length_singleton] at hi'
    obtain rfl : i = G.length := by omega
    rw [List.getElem?_append_right (Nat.le_refl _), Nat.sub_self] at hs'
    cases hs'
    exact ⟨A, k, by rw [List.getElem?_set_self hl], far hs⟩
theorem GraphAt.next' {w : World} {B g c i : Nat} {vs : List Value} {G : List (List Nat)} (h : GraphAt w B g c vs G) (hi : G.length = i) (hl : i < vs.length) (A : Option Addr) (k : Nat) (s : List Nat) (hs : RowN w (g + 1) A k s) :
    GraphAt (w.setCell ⟨g, i, none⟩ (.slice A s.length k)) B g c (vs.set i (.slice A s.length k)) (G ++ [s]) := by
  subst hi
  exact h.next hl A k s hs
theorem Row.cellAt {w : World} {B g n c : Nat} {e : TypeId} {vs : List Value} (h : Row w B e 1 (some ⟨g, 0, none⟩) n c vs) (i : Nat) (hi : i < vs.length) : w.cell? ⟨g, i, none⟩ = some (vs[i]'hi) ∧ w.frozen? ⟨g, i, none⟩ = false := by
  rcases Row.cases h with ⟨_, _, _, ⟨h1, _⟩ | ⟨g', h1, _, _, hc, hf⟩⟩
  · cases h1
  · obtain ⟨rfl⟩ := h1
    exact ⟨hc i _ (List.getElem?_eq_getElem hi), hf i⟩
def GraphPost (w : World) (n : Nat) (r : Option (List (List Nat))) (e : Ending) (w' : World) : Prop :=
  (e = .returned (.tuple #[.slice none 0 0, .bool false]) ∧ r = none ∧ Grew w w') ∨ ∃ g vs G, e = .returned (.tuple #[.slice (some ⟨g, 0, none⟩) n n, .bool true]) ∧ r = some G ∧ vs.length = n ∧ GraphAt w' w.heap.size g n vs G ∧ Grew w w'
set_option maxRecDepth 100000 in
set_option maxHeartbeats 2000000 in
theorem graph_c (A1 : Option Addr) (c1 : Nat) (A2 : Option Addr) (c2 n : Nat) (l : List Op7.Ins) (os : List Nat) (w : World) (h : CodeAt w A1 A2 c2 n l os) :
    Calls Tryz.prog 22 #[.agg #[.slice A1 n c1, .slice A2 n c2]] w (GraphPost w n (Fl.graph l os)) := by
  have H := hid h
  have hn := h.few
  have HG := hid (((Grew.refl w).alloc (.cells #[.slice A1 n c1, .slice A2 n c2] 54)))
  clear h
  rcases Nat.eq_zero_or_pos n with h0 | h0
  · subst h0
    have HR : Hid (Fl.graph l os = none) := hid (by unfold Fl.graph; rw [if_pos (List.eq_nil_of_length_eq_zero H.out.l1.symm)])
    go_enter Tryz.func22, Tryz.ntmps22
    go_wp2_with fail
    go_ret2
    exact .inl ⟨rfl, HR.out, HG.out⟩
  · have HE : Hid (Fl.graph l os = Fl.graphTo l os n) := hid (by
      unfold Fl.graph
      rw [if_neg (fun h => by have := H.out.l1; rw [h] at this; simp at this; omega), ← H.out.l1])
    have f0 : (((n : Nat) : Int) == 0) = false := by rw [beq_eq_false_iff_ne]; omega
    obtain ⟨W1, hmk, hR1, hG1, hlt1⟩ := make_one (z := .slice none 0 0) Tryz.underlying37 slice_info rfl (by decide) n (by omega) (w.alloc (.cells #[.slice A1 n c1, .slice A2 n c2] 54))
    simp only [World.size_alloc] at hR1 hmk hlt1
    obtain ⟨g, hg⟩ : ∃ g, g = w.heap.size + 1 := ⟨_, rfl⟩
    rw [← hg] at hmk hR1 hlt1
    have hQ1 : GraphAt W1 w.heap.size g n (List.replicate n (.slice none 0 0)) [] := ⟨by rw [List.length_replicate]; exact Row.low hR1 (by omega), fun i s hs => by simp at hs⟩
    obtain ⟨y1, rfl⟩ := hG1
    have HQ1 := hid hQ1
    clear hQ1 hR1 hlt1
    have HGG := hid hg
    clear hg
    go_enter Tryz.func22, Tryz.ntmps22
    go_wp2_with fail
    clear hmk
    go_loopw [20] (fun s20 wr => ∃ (i : Nat) (vs : List Value) (G : List (List Nat)), s20 = .int .i64 ((i : Nat) : Int) ∧ i ≤ n ∧ Hid (vs.length = n ∧ G.length = i ∧ Fl.graphTo l os i = some G ∧ GraphAt wr w.heap.size g n vs G) ∧ (∃ y : After (w.alloc (.cells #[.slice A1 n c1, .slice A2 n c2] 54)), wr = y.w)) (fun s20 _ => n - (intOf s20).toNat)
    case atStart => exact ⟨0, _, [], rfl, Nat.zero_le _, hid ⟨by simp, rfl, rfl, HQ1.out⟩, y1, rfl⟩
    case round =>
      obtain ⟨i, vs, G, rfl, hi, HI, y2, rfl⟩ := hrel
      clear HQ1
      by_cases hlt : i < n
      · have f1 : (i : Int) < n := by omega
        obtain ⟨o, ho⟩ : ∃ o, l[i]? = some o := ⟨_, List.getElem?_eq_getElem (show i < l.length by rw [← H.out.l1]; exact hlt)⟩
        obtain ⟨ad, rfl, hb, hc⟩ := H.out.ops.2 (by rw [← H.out.l1]; omega)
        obtain ⟨q0, q1, q2⟩ := op_cell (o := o) (i := i) (ad := ad) (w := y2.w) (fun j u hu => by
          rw [(HG.out.trans y2.grew).below.cell (by rw [block_add]; exact hb)]; exact hc i o ho j u hu)
        have HSC := hid (fun w' (hg : Grew w w') => succ_c (some ad) c1 A2 c2 n l os i w' (H.out.grew hg) hlt)
        have HJC := hid (fun w' (hg : Grew w w') x => join_c (some ad) c1 A2 c2 n l os x w' (H.out.grew hg))
        have HST : Hid (Fl.graphTo l os (i + 1) = (Fl.node l os i).map fun s => G ++ [s]) := hid (by
          show (Fl.graphTo l os i).bind _ = _
          rw [HI.out.2.2.1]; rfl)
        have HND : Hid (∀ s, Fl.succ l os i = some s → Fl.node l os i = if o.code = 14 ∧ Fl.isJoin l os o.b = false then none else some s) := hid (by
          intro s hs
          unfold Fl.node
          rw [hs, Option.bind_some, ho])
        have HNN : Hid (Fl.succ l os i = none → Fl.graph l os = none) := hid (by
          intro hs
          rw [HE.out]
          refine Fl.graphTo_none (k := i + 1) ?_ n (by omega)
          rw [HST.out]
          unfold Fl.node
          rw [hs]; rfl)
        have HNJ : Hid (Fl.node l os i = none → Fl.graph l os = none) := hid (by
          intro hs
          rw [HE.out]
          refine Fl.graphTo_none (k := i + 1) ?_ n (by omega)
          rw [HST.out, hs]; rfl)
        obtain ⟨hgl, hgs⟩ := Row.lt' HI.out.2.2.2.row
        have hws : w.heap.size < y2.w.heap.size := by omega
        obtain ⟨qc, qf⟩ := HI.out.2.2.2.row.cellAt i (by rw [HI.out.1]; exact hlt)
        clear hc ho
        obtain ⟨cd, oa, ob⟩ := o
        simp only at q0 q1 q2 HND
        go_wp2_with fail
        refine (HSC.out _ (HG.out.trans (y2.grew.alloc _))).mono ?_
        rintro e w3 ⟨A3, c3, b, s, rfl, hs, hO, y3, rfl⟩
        have HS := hid hs
        have HO := hid hO
        clear hs hO
        cases b
        · have HX := hid (HNN.out (by rw [HS.out]; rfl))
          go_wp2_with fail
          go_ret2
          exact .inl ⟨rfl, HX.out, HG.out.trans ((y2.grew.alloc _).trans y3.grew)⟩
        · replace HND := hid (HND.out s (by rw [HS.out]; rfl))
          have HGR := hid ((y2.grew.alloc (.cells #[.int .u8 ((cd : Nat) : Int), .int .i64 oa, .int .i64 ob] 51)).trans y3.grew)
          by_cases h14 : cd = 14
          · have e14 : (((cd : Nat) : Int) == 14) = true := by rw [beq_iff_eq]; omega
            cases hj : Fl.isJoin l os ob
            · have HX := hid (HNJ.out (by rw [HND.out, if_pos ⟨h14, hj⟩]))
              have HJ := hid (fun w' (hg : Grew w w') => HJC.out w' hg ob)
              rw [hj] at HJ
              clear h14
              go_wp2_with fail
              refine (HJ.out _ (HG.out.trans HGR.out)).mono ?_
              rintro e w4 ⟨rfl, hg4⟩
              go_wp2_with fail
              go_ret2
              exact .inl ⟨rfl, HX.out, HG.out.trans (HGR.out.trans hg4)⟩
            · have HX := hid (show Fl.graphTo l os (i + 1) = some (G ++ [s]) by rw [HST.out, HND.out, if_neg (fun h => by rw [hj] at h; cases h.2)]; rfl)
              have HJ := hid (fun w' (hg : Grew w w') => HJC.out w' hg ob)
              rw [hj] at HJ
              clear h14
              go_wp2_with fail
              refine (HJ.out _ (HG.out.trans HGR.out)).mono ?_
              rintro e w4 ⟨rfl, hg4⟩
              have HO4 := hid (HO.out.grew hg4)
              have HI4 := hid (HI.out.2.2.2.grew (((Grew.refl y2.w).alloc (.cells #[.int .u8 ((cd : Nat) : Int), .int .i64 oa, .int .i64 ob] 51)).trans (y3.grew.trans hg4)))
              have HG4 := hid (HGR.out.trans hg4)
              obtain ⟨qc4, qf4⟩ := HI4.out.row.cellAt i (by rw [HI.out.1]; exact hlt)
              clear q0 q1 q2 qc qf
              go_wp2_with fail
              go_round
              case rel => exact ⟨i + 1, vs.set i (.slice A3 s.length c3), G ++ [s], by go_num, by omega, hid ⟨by rw [List.length_set]; exact HI.out.1, by rw [List.length_append, HI.out.2.1]; rfl, HX.out, HI4.out.next' HI.out.2.1 (by rw [HI.out.1]; exact hlt) A3 c3 s (Row.low HO4.out (by simp only [World.size_alloc]; omega))⟩, HG4.out.setCell (by simp only [World.size_alloc]; have := HGG.out; omega) _⟩
              case measure => simp [intOf]; omega
          · have e14 : (((cd : Nat) : Int) == 14) = false := by rw [beq_eq_false_iff_ne]; omega
            have HX := hid (show Fl.graphTo l os (i + 1) = some (G ++ [s]) by rw [HST.out, HND.out, if_neg (fun h => h14 h.1)]; rfl)
            have HI4 := hid (HI.out.2.2.2.grew (((Grew.refl y2.w).alloc (.cells #[.int .u8 ((cd : Nat) : Int), .int .i64 oa, .int .i64 ob] 51)).trans y3.grew))
            go_wp2_with fail
            go_round
            case rel => exact ⟨i + 1, vs.set i (.slice A3 s.length c3), G ++ [s], by go_num, by omega, hid ⟨by rw [List.length_set]; exact HI.out.1, by rw [List.length_append, HI.out.2.1]; rfl, HX.out, HI4.out.next' HI.out.2.1 (by rw [HI.out.1]; exact hlt) A3 c3 s (Row.low HO.out (by simp only [World.size_alloc]; omega))⟩, HGR.out.setCell (by simp only [World.size_alloc]; have := HGG.out; omega) _⟩
            case measure => simp [intOf]; omega
      · have hin : i = n := by omega
        subst hin
        have HX : Hid (Fl.graph l os = some G) := hid (by rw [HE.out]; exact HI.out.2.2.1)
        go_wp2_with fail
        go_ret2
        exact .inr ⟨g, vs, G, rfl, HX.out, HI.out.1, HI.out.2.2.2, HG.out.trans y2.grew⟩
end Go.Proofs.YtilikjfjbnabfaaGreatDoor

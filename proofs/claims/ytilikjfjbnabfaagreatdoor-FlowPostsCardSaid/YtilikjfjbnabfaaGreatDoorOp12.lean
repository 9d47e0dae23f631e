/- Stage 7: the program's own Encode. -/
import Derived.Test.YtilikjfjbnabfaaGreatDoorOp11
import Derived.Test.YtilikjfjbnabfaaGreatDoorNum
import Derived.Laws.MakeOwn
namespace Go.Proofs.YtilikjfjbnabfaaGreatDoor
open Go.RowKit

/-- 'make([]byte, 0, n)'. -/
theorem make_room {P : Program} {t e : TypeId} (ht : P.underlying t = some (.slice e)) (he : (P.info? e).map (fun i => (i.zero, i.size, i.bytes)) = some (some (.int .u8 0), 1, 1))
    (n : Nat) (hn : n ≤ 281474976710656) {w0 W : World} (hg : Grew w0 W) : ∃ w', (Instr.makeSlice t (.int .i64 0) (.int .i64 n)).run P W = .ok (.slice (some ⟨W.heap.size, 0, none⟩) 0 n) w' ∧ OwnNums .u8 w0 w' e (some ⟨W.heap.size, 0, none⟩) n [] ∧ Grew w0 w' := by
  obtain ⟨i, hi, hz0, hz1, hz2⟩ := info_parts he
  have hr := run_make (P := P) W t e i (.int .u8 0) ht hi hz0 .i64 .i64 0 n (Int.le_refl _) (by omega) (by rw [hz2]; omega) (by omega)
  simp only [Int.toNat_zero, Int.toNat_natCast] at hr
  refine ⟨_, hr, ?_, hg.alloc _⟩
  have := World.ownsRow_made (base := w0.heap.size) (e := e) (size := 1) W (madeCells (Value.int IntKind.u8 0).cells (n * i.size)) n hg.below.size (by simp only [maxLen]; omega) (by rw [size_madeCells, hz1])
  exact this
theorem Row8.of_own {w0 w : World} {A : Option Addr} {c : Nat} {xs : List Nat} (h : OwnNums .u8 w0 w 5 A c xs) : Row8 w w0.heap.size A c xs := h
theorem Row8.at_base {w : World} {B : Nat} {A : Option Addr} {c : Nat} {xs : List Nat} (h : Row8 w B A c xs) : ∀ k, AtRow A k → B ≤ k := by
  rintro k ⟨ad, rfl, rfl⟩
  rcases Row.cases h with ⟨_, _, _, ⟨h1, _⟩ | ⟨g, h1, hb, _⟩⟩
  · cases h1
  · obtain rfl := Option.some.inj h1
    exact hb
def szs (l : List Op7.Ins) : Nat := (l.map fun o => Op7.size o.code).sum
theorem szs_snoc (l : List Op7.Ins) (o : Op7.Ins) : szs (l ++ [o]) = szs l + Op7.size o.code := by simp [szs]
theorem szs_encs (l : List Op7.Ins) : szs l = (Op7.encs l).length := by
  induction l with
  | nil => rfl
  | cons o l ih =>
    rw [Op7.encs_cons, List.length_append, Op7.enc_len, ← ih]
    simp [szs]
def OEncPost (w : World) (r : List Nat × Nat) (e : Ending) (w' : World) : Prop :=
  ∃ A' c' L, e = .returned (.tuple #[.slice A' (List.length L) c', errVal r.2]) ∧ L = r.1 ∧ Row8 w' w.heap.size A' c' L ∧ Grew w w'
set_option maxRecDepth 100000 in
set_option maxHeartbeats 2000000 in
theorem oencode_c (A : Option Addr) (c : Nat) (l : List Op7.Ins) (w : World) (h : OpsAt w w.heap.size A l) (hT : TabAt w) (hl : l.length ≤ 1000000) :
    Calls Tryz.prog 19 #[.slice A l.length c] w (OEncPost w (encR l)) := by
  have HA := hid h
  have HT := hid hT
  obtain ⟨n, en⟩ : ∃ n, n = l.length := ⟨_, rfl⟩
  rw [← en] at hl ⊢
  have EN := hid en
  clear h hT en
  go_enter Tryz.func19, Tryz.ntmps19
  go_wp2_with fail
  go_loopw [4, 12] (fun s4 s12 wr => ∃ (i z : Nat), s4 = .int .i64 ((z : Nat) : Int) ∧ s12 = .int .i64 ((i : Nat) : Int) ∧ i ≤ n ∧ z ≤ 5 * i ∧ Grew w wr ∧ Hid (z = szs (l.take i) ∧ ∀ o ∈ l.take i, Op7.valid o)) (fun _ s12 _ => n - (intOf s12).toNat)
  case atStart => exact ⟨0, 0, rfl, rfl, Nat.zero_le _, Nat.zero_le _, Grew.refl _, hid ⟨rfl, by simp⟩⟩
  case round =>
    obtain ⟨i, z, rfl, rfl, hi, hz, hg, H⟩ := hrel
    have HG := hid hg
    clear hg
    by_cases hlt : i < n
    · have f1 : (i : Int) < n := by omega
      obtain ⟨ad, rfl, hb, hc⟩ := HA.out.2 (by rw [← EN.out]; omega)
      obtain ⟨o, ho⟩ : ∃ o, l[i]? = some o := ⟨_, List.getElem?_eq_getElem (show i < l.length by rw [← EN.out]; exact hlt)⟩
      have HX := hid (show l.take (i + 1) = l.take i ++ [o] by rw [List.take_add_one, ho]; rfl)
      have HM := hid (List.mem_of_getElem? ho)
      have hcc := hc i o ho
      obtain ⟨q0, q1, q2⟩ := op_cell (o := o) (i := i) (ad := ad) (w := wr) fun j u hu => by rw [HG.out.below.cell (by rw [block_add]; exact hb)]; exact hcc j u hu
      have HV := hid (fun w' (hg : Grew w w') => valid_c o w' (HA.out.1 o HM.out) (HT.out.grew hg))
      have HS := hid (fun w' (hg : Grew w w') => osize_c o.code w' (HA.out.1 o HM.out) (HT.out.grew hg))
      clear hcc hc ho
      by_cases hv : Op7.valid o
      · rw [decide_eq_true hv] at HV
        rw [if_pos hv.1] at HS
        have hz5 := Op7.size_le o.code
        have HN := hid (show z + Op7.size o.code = szs (l.take (i + 1)) ∧ ∀ o ∈ l.take (i + 1), Op7.valid o by
          rw [HX.out, szs_snoc, H.out.1]
          refine ⟨rfl, fun p hp => ?_⟩
          rcases List.mem_append.1 hp with hp | hp
          · exact H.out.2 p hp
          · rw [List.mem_singleton.1 hp]; exact hv)
        clear hv HX H
        generalize Op7.size o.code = sz at *
        go_wp2_with fail
        have HGB := hid (HG.out.alloc (.cells #[.int .u8 ((o.code : Nat) : Int), .int .i64 o.a, .int .i64 o.b] 51))
        refine (Calls.after (Grew.refl _) (HV.out _ HGB.out)).mono ?_
        rintro e w2 ⟨rfl, y2, rfl⟩
        go_wp2_with fail
        refine (Calls.grew (HGB.out.trans y2.grew) (HS.out _ (HGB.out.trans y2.grew))).mono ?_
        rintro e w3 ⟨rfl, hg3⟩
        go_wp2_with fail
        go_round
        case rel => exact ⟨i + 1, z + sz, by go_num, by go_num, by omega, by omega, hg3, HN⟩
        case measure => simp [intOf]; omega
      · rw [decide_eq_false hv] at HV
        have HE := hid (show encR l = ([], 8) by
          unfold encR
          rw [if_neg (fun h => hv (h o HM.out))])
        clear hv HX H HS
        go_wp2_with fail
        have HGB := hid (HG.out.alloc (.cells #[.int .u8 ((o.code : Nat) : Int), .int .i64 o.a, .int .i64 o.b] 51))
        refine (Calls.grew HGB.out (HV.out _ HGB.out)).mono ?_
        rintro e w2 ⟨rfl, hg2⟩
        go_wp2_with fail
        go_ret2
        exact ⟨none, 0, [], by rw [HE.out]; rfl, by rw [HE.out], Row8.nil _ _, hg2⟩
    · have hin : i = n := by omega
      subst hin
      have HE := hid (show z = (Op7.encs l).length ∧ ∀ o ∈ l, Op7.valid o by
        have := H.out
        rwa [List.take_of_length_le (by rw [← EN.out]; exact Nat.le_refl _), szs_encs] at this)
      clear H
      by_cases h5 : 512 < z
      · have f5 : (512 : Int) < z := by omega
        have HR := hid (show encR l = ([], 4) by unfold encR; rw [if_pos HE.out.2, ← HE.out.1, if_pos h5])
        go_wp2_with fail
        go_ret2
        exact ⟨none, 0, [], by rw [HR.out]; rfl, by rw [HR.out], Row8.nil _ _, HG.out⟩
      · have f5 : ¬ (512 : Int) < z := by omega
        have HR := hid (show encR l = (Op7.encs l, 0) by unfold encR; rw [if_pos HE.out.2, ← HE.out.1, if_neg h5])
        obtain ⟨W1, hmk, hO1, hG1⟩ := make_room Tryz.underlying22 op_u8 z (by omega) (w0 := w) HG.out
        have HO1 := hid (Row8.of_own hO1)
        have HG1 := hid hG1
        clear hO1 hG1
        generalize some (⟨wr.heap.size, 0, none⟩ : Addr) = B1 at *
        go_wp2_with fail
        clear hmk
        go_loopw [7, 33] (fun s7 s33 wr => ∃ (j : Nat) (G : Option Addr) (k : Nat) (L : List Nat), s7 = .slice G L.length k ∧ s33 = .int .i64 ((j : Nat) : Int) ∧ j ≤ i ∧ L.length ≤ 5 * j ∧ Hid (Row8 wr w.heap.size G k L) ∧ Grew w wr ∧ Hid (L = Op7.encs (l.take j))) (fun _ s33 _ => i - (intOf s33).toNat)
        case atStart => exact ⟨0, B1, z, [], rfl, rfl, Nat.zero_le _, Nat.zero_le _, HO1, HG1.out, hid rfl⟩
        case round =>
          obtain ⟨j, G, k, L, rfl, rfl, hj, hL, HO, hg, HLj⟩ := hrel
          have HGq := hid hg
          clear hg
          by_cases hlt : j < i
          · have f1 : (j : Int) < i := by omega
            obtain ⟨ad, rfl, hb, hc⟩ := HA.out.2 (by rw [← EN.out]; omega)
            obtain ⟨o, ho⟩ : ∃ o, l[j]? = some o := ⟨_, List.getElem?_eq_getElem (show j < l.length by rw [← EN.out]; exact hlt)⟩
            have HX := hid (show l.take (j + 1) = l.take j ++ [o] by rw [List.take_add_one, ho]; rfl)
            have HM := hid (List.mem_of_getElem? ho)
            have hcc := hc j o ho
            obtain ⟨q0, q1, q2⟩ := op_cell (o := o) (i := j) (ad := ad) (w := wr) fun j u hu => by rw [HGq.out.below.cell (by rw [block_add]; exact hb)]; exact hcc j u hu
            have hsz := hid (show (Op7.enc o).length ≤ 5 by rw [Op7.enc_len]; exact Op7.size_le _)
            have HGB := hid (HGq.out.alloc (.cells #[.int .u8 ((o.code : Nat) : Int), .int .i64 o.a, .int .i64 o.b] 51))
            have HP := hid (oput_c o G k L w.heap.size (wr.alloc (.cells #[.int .u8 ((o.code : Nat) : Int), .int .i64 o.a, .int .i64 o.b] 51)) HGB.out.below.size (HE.out.2 o HM.out) (HT.out.grew HGB.out) (HO.out.grew ((Grew.refl _).alloc _)) (by omega))
            have HNA := hid (Row8.at_base HO.out)
            clear hcc hc ho hb
            go_wp2_with fail
            refine HP.out.mono ?_
            rintro e w5 ⟨A5, c5, M5, rfl, hM5, hO5, hK5, hT5⟩
            have HM5 := hid hM5
            have HK5 := hid hK5
            have HO5 := hid hO5
            clear hM5 hK5 hO5 hT5
            go_wp2_with fail
            go_round
            case rel => exact ⟨j + 1, A5, c5, M5, rfl, by go_num, by omega, by rw [HM5.out, List.length_append]; have := hsz.out; omega, HO5, HK5.out.grew HGB.out HNA.out, hid (by rw [HM5.out, HX.out, Op7.encs_snoc, HLj.out])⟩
            case measure => simp [intOf]; omega
          · have hji : j = i := by omega
            subst hji
            have HLL := hid (show L = Op7.encs l by
              have := HLj.out
              rwa [List.take_of_length_le (by rw [← EN.out]; exact Nat.le_refl _)] at this)
            go_wp2_with fail
            go_ret2
            exact ⟨G, k, L, by rw [HR.out]; rfl, by rw [HR.out]; exact HLL.out, HO.out, HGq.out⟩
end Go.Proofs.YtilikjfjbnabfaaGreatDoor

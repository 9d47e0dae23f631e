/- VarintList: for every slice of ints the law returns true, and nothing that was there is changed. Conditions: none of ours. -/
import Derived.Test.YtlidjdlamnkfmabDoorBack04
namespace Go.Proofs.YtlidjdlamnkfmabDoor
open Go.RowKit

/-- 'l.length' ints from address 'A' on. -/
def IntsAt (w : World) (B : Nat) (A : Option Addr) (l : List Int) : Prop :=
  (∀ x ∈ l, Vi.I64 x) ∧ (0 < l.length → ∃ ad, A = some ad ∧ ad.block < B ∧ ∀ j, j < l.length → w.cell? (ad.add j) = some (.int .i64 (l.getD j 0)))
theorem IntsAt.grew {w w' : World} {A : Option Addr} {l : List Int} (h : IntsAt w w.heap.size A l) (hg : Grew w w') : IntsAt w' w'.heap.size A l := by
  refine ⟨h.1, fun hn => ?_⟩
  obtain ⟨ad, e, hb, hc⟩ := h.2 hn
  exact ⟨ad, e, Nat.lt_of_lt_of_le hb hg.below.size, fun j hj => by rw [hg.below.cell (by rw [block_add]; exact hb)]; exact hc j hj⟩
theorem IntsAt.i64 {w : World} {B : Nat} {A : Option Addr} {l : List Int} (h : IntsAt w B A l) (j : Nat) : Vi.I64 (l.getD j 0) := by
  rcases Nat.lt_or_ge j l.length with hj | hj
  · exact h.1 _ (by rw [List.getD_eq_getElem?_getD, List.getElem?_eq_getElem hj]; exact List.getElem_mem hj)
  · rw [List.getD_eq_getElem?_getD, List.getElem?_eq_none hj]; exact ⟨by decide, by decide⟩
/-- The bytes of numbers, one behind the other. -/
def encs (l : List Int) : List Nat := l.flatMap Vi.enc
theorem encs_snoc (l : List Int) (x : Int) : encs (l ++ [x]) = encs l ++ Vi.enc x := by simp [encs]
theorem encs_cons (l : List Int) (x : Int) : encs (x :: l) = Vi.enc x ++ encs l := by simp [encs]
theorem encs_len : ∀ (l : List Int), (encs l).length ≤ 10 * l.length
  | [] => by simp [encs]
  | x :: r => by
    have := encs_len r
    have := (Vi.enc_len x).2
    rw [encs_cons, List.length_append, List.length_cons]
    omega
theorem encs_byte (l : List Int) : ∀ x ∈ encs l, x < 256 := by
  intro x hx
  obtain ⟨n, _, h⟩ := List.mem_flatMap.1 hx
  exact Vi.enc_byte n x h
theorem ints_take {l : List Int} {i : Nat} (h : i < l.length) : l.take (i + 1) = l.take i ++ [l.getD i 0] := by
  rw [List.take_succ_eq_append_getElem h]
  simp [List.getD_eq_getElem?_getD, List.getElem?_eq_getElem h]
theorem ints_drop {l : List Int} {N i : Nat} (h : i < N) (hN : N ≤ l.length) : (l.take N).drop i = l.getD i 0 :: (l.take N).drop (i + 1) := by
  have hl : i < (l.take N).length := by rw [List.length_take]; omega
  rw [List.drop_eq_getElem_cons hl]
  congr 1
  simp [List.getD_eq_getElem?_getD, List.getElem?_eq_getElem (show i < l.length by omega)]
/-- What stands behind the first 'k' bytes. -/
theorem NumsAt.drop {k : IntKind} {w : World} {B : Nat} {ad : Addr} {xs : List Nat} (h : NumsAt k w B (some ad) xs) (n : Nat) : NumsAt k w B (some (ad.add n)) (xs.drop n) := by
  intro hn
  rw [List.length_drop] at hn
  obtain ⟨ad', e, hb, hc⟩ := h (by omega)
  obtain rfl := Option.some.inj e
  refine ⟨_, rfl, by rw [block_add]; exact hb, fun j hj => ?_⟩
  rw [List.length_drop] at hj
  rw [add_add, hc (n + j) (by omega)]
  simp [List.getD_eq_getElem?_getD]

set_option maxRecDepth 100000 in
set_option maxHeartbeats 4000000 in
theorem list_walk (A : Option Addr) (c : Nat) (l : List Int) (w : World) (ha : IntsAt w w.heap.size A l) (hm : l.length ≤ 9223372036854775807) (hg : HandleAt w) :
    Calls Tryd.prog 5 #[.slice A l.length c] w fun e w' => e = .returned (.bool true) ∧ Grew w w' := by
  have Hg := hid hg
  have HA := hid ha
  clear hg ha
  obtain ⟨N, hN⟩ : ∃ N, N = min l.length 200 := ⟨_, rfl⟩
  have hN1 : N ≤ l.length := by omega
  have hN2 : N ≤ 200 := by omega
  have HNO := hid (show ∀ i : Nat, ¬ i < N → i ≤ N → ((i : Int) < l.length → ¬ (i : Int) < 200) by omega)
  clear hN
  go_enter Tryd.func5, Tryd.ntmps5
  go_wp2_with fail
  go_loopw [3, 4] (fun s3 s4 wx => ∃ (i : Nat) (G : Option Addr) (h : Nat) (L : List Nat), s4 = .int .i64 ((i : Nat) : Int) ∧ s3 = .slice G L.length h ∧ OwnNums .u8 w wx 5 G h L ∧ Grew w wx ∧ i ≤ N ∧ L.length ≤ 10 * i ∧ Hid (L = encs (l.take i))) (fun _ s4 _ => N - (intOf s4).toNat)
  case atStart => exact ⟨0, none, 0, [], rfl, rfl, OwnNums.nil _ _ _ _, Grew.refl _, Nat.zero_le _, by simp, hid (by simp [encs])⟩
  case round =>
    obtain ⟨i, G, h, L, rfl, rfl, hown, hg, hi, hLl, HL⟩ := hrel
    by_cases hlt : i < N
    · have f1 : (i : Int) < l.length := by omega
      have f2 : (i : Int) < 200 := by omega
      obtain ⟨ad, rfl, hb, hcell⟩ := (HA.out.grew hg).2 (by omega)
      have hx := hcell i (by omega)
      have hx64 := HA.out.i64 i
      have HT := hid (show encs (l.take (i + 1)) = L ++ Vi.enc (l.getD i 0) by rw [ints_take (by omega), encs_snoc, HL.out])
      have CP := hid (put_c G h L (l.getD i 0) wr hown.at hx64 (by omega))
      have hxl := (Vi.enc_len (l.getD i 0)).2
      generalize l.getD i 0 = x at *
      clear hcell hb HNO
      go_wp2_with fail
      refine CP.out.mono ?_
      rintro e w1 ⟨G2, h2, L2, rfl, hO2, hL2, hg2⟩
      have HO2 := hid (hO2.mono hg)
      have HL2 := hid hL2
      have hg3 := hg.trans hg2
      clear hO2 hL2 CP hg2 hown hg
      go_wp2_with fail
      go_roundw
      case rel => exact ⟨i + 1, G2, h2, L2, by go_num, rfl, HO2.out, hg3, by omega, by rw [HL2.out, List.length_append]; omega, hid (by rw [HT.out, HL2.out])⟩
      case measure => simp [intOf]; omega
    · obtain rfl : i = N := by omega
      have HNI := hid (HNO.out i hlt (Nat.le_refl _))
      clear HNO
      by_cases f1 : (i : Int) < l.length
      all_goals
        first
          | (have f2 : ¬ (i : Int) < 200 := by have := HNI.out f1; omega)
          | (have f2 : True := trivial)
        go_wp2_with fail
        have hcap := hown.cap
        have HR0 := hid (show L = encs ((l.take i).drop 0) by rw [HL.out]; rfl)
        have HS0 := hid hown.at
        clear HL hown
        go_loopw [3, 5] (fun s3 s5 wx => ∃ (j : Nat) (G : Option Addr) (h : Nat) (R : List Nat), s5 = .int .i64 ((j : Nat) : Int) ∧ s3 = .slice G R.length h ∧ Hid (NumsAt .u8 wx wx.heap.size G R) ∧ Grew w wx ∧ j ≤ i ∧ R.length ≤ h ∧ h ≤ 9223372036854775807 ∧ Hid (R = encs ((l.take i).drop j))) (fun _ s5 _ => i - (intOf s5).toNat)
        case atStart => exact ⟨0, G, h, L, rfl, rfl, HS0, hg, Nat.zero_le _, hcap.1, hcap.2, HR0⟩
        case round =>
          clear HR0 HS0 hg hcap
          obtain ⟨j, G', h', R, rfl, rfl, HS, hg, hj, hRh, hhm, HR⟩ := hrel
          by_cases hlt2 : j < i
          · have f3 : (j : Int) < l.length := by omega
            have f4 : (j : Int) < 200 := by omega
            obtain ⟨ad, rfl, hb, hcell⟩ := (HA.out.grew hg).2 (by omega)
            have hx64 := HA.out.i64 j
            have HD := hid (show R = Vi.enc (l.getD j 0) ++ encs ((l.take i).drop (j + 1)) by rw [HR.out, ints_drop hlt2 (by omega), encs_cons])
            have HX := hid (hcell j (by omega))
            have hxl := Vi.enc_len (l.getD j 0)
            obtain ⟨x, hx⟩ : ∃ x, x = l.getD j 0 := ⟨_, rfl⟩
            rw [← hx] at hx64 HD HX hxl
            clear hx hcell
            obtain ⟨E, hE⟩ : ∃ E, E = Vi.enc x := ⟨_, rfl⟩
            rw [← hE] at HD hxl
            have hER : E.length ≤ R.length := by rw [HD.out, List.length_append]; omega
            obtain ⟨g, rfl, hgb, _⟩ := HS.out (by omega)
            have HB := hid (NumsAt.to_bytes HS.out (by rw [HR.out]; exact encs_byte _))
            have CG := hid (get_enc hx64 (some g) h' R R.length E (encs ((l.take i).drop (j + 1))) wr wr (Grew.refl _) HB.out HD.out hE rfl hRh hhm)
            have HDr := hid (show R.drop E.length = encs ((l.take i).drop (j + 1)) by rw [HD.out, List.drop_left])
            have HDl := hid (List.length_drop (i := E.length) (l := R))
            have HSd := hid (HS.out.drop E.length)
            clear hE HB HR HD HS hgb
            generalize R.drop E.length = R2 at *
            go_wp2_with fail
            refine CG.out.mono ?_
            rintro e w2 ⟨rfl, y2, rfl⟩
            have hcell : y2.w.cell? (ad.add j) = some (.int .i64 x) := by rw [y2.cell _ (by rw [block_add]; exact hb)]; exact HX.out
            have hq1 : 1 ≤ (E.length : Int) := by omega
            have hq2 : (E.length : Int) ≤ R.length := by omega
            have hq3 : (E.length : Int) ≤ h' := by omega
            clear CG HX hb
            by_cases hcap : E.length = h'
            · have HR2 := hid (show ([] : List Nat) = encs ((l.take i).drop (j + 1)) by
                rw [← HDr.out]
                exact (List.eq_nil_of_length_eq_zero (by rw [HDl.out]; omega)).symm)
              go_wp2_with fail
              go_roundw
              case rel => exact ⟨j + 1, some g, 0, [], by go_num, rfl, hid (NumsAt.nil _ _ _ _), hg.trans y2.grew, by omega, Nat.le_refl _, by decide, HR2⟩
              case measure => simp [intOf]; omega
            · go_wp2_with fail
              go_roundw
              case rel => exact ⟨j + 1, some (g.add E.length), h' - E.length, R2, by go_num, by rw [HDl.out], hid (HSd.out.grew y2.grew), hg.trans y2.grew, by omega, by rw [HDl.out]; omega, by omega, HDr⟩
              case measure => simp [intOf]; omega
          · obtain rfl : j = i := by omega
            have HR2 := hid (show R = [] by rw [HR.out, List.drop_eq_nil_of_le (by rw [List.length_take]; omega)]; rfl)
            obtain rfl := HR2.out
            clear HR HR2 HS hRh
            go_wp2_with fail
            refine (Calls.grew hg (sure_c _ (Hg.out.grew hg))).mono ?_
            rintro e w8 ⟨rfl, y8, rfl⟩
            go_wp2_with fail
            go_ret
            exact ⟨rfl, y8.grew⟩
end Go.Proofs.YtlidjdlamnkfmabDoor

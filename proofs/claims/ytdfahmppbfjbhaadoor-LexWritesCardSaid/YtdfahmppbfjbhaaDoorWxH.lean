/- Stage 13: the program's own quoted. -/
import Derived.Test.YtdfahmppbfjbhaaDoorWxG
namespace Go.Proofs.YtdfahmppbfjbhaaDoor
open Go.RowKit

theorem quoted_none : ∀ {l : List UInt8}, l.all (fun c => c != 39) = true → Lx.quoted l = none
  | [], _ => rfl
  | [c], h => by
    have : c ≠ 39 := by simpa using h
    unfold Lx.quoted
    rw [if_neg this]
  | c :: d :: r, h => by
    simp only [List.all_cons, Bool.and_eq_true, bne_iff_ne] at h
    rw [Lx.quoted, if_neg h.1, quoted_none (l := d :: r) (by simp only [List.all_cons, Bool.and_eq_true, bne_iff_ne]; exact h.2)]
    rfl
theorem quoted_skip : ∀ (p z : List UInt8), p.all (fun c => c != 39) = true → z ≠ [] → Lx.quoted (p ++ z) = (Lx.quoted z).map fun x => (p ++ x.1, x.2 + p.length)
  | [], z, _, _ => by
    rw [List.nil_append]
    cases Lx.quoted z <;> simp
  | c :: p, z, h, hz => by
    simp only [List.all_cons, Bool.and_eq_true, bne_iff_ne] at h
    have ih := quoted_skip p z (by simpa using h.2) hz
    obtain ⟨d, r, e⟩ : ∃ d r, p ++ z = d :: r := by
      cases hd : p ++ z with
      | nil => simp at hd; exact absurd hd.2 hz
      | cons d r => exact ⟨d, r, rfl⟩
    rw [List.cons_append, e, Lx.quoted, if_neg h.1, ← e, ih]
    cases Lx.quoted z with
    | none => rfl
    | some y => simp; omega
theorem quoted_end {r : List UInt8} (h : r.head? ≠ some 39) : Lx.quoted (39 :: r) = some ([], 1) := by
  cases r with
  | nil => rfl
  | cons d q =>
    rw [Lx.quoted, if_pos rfl, if_neg (fun e => h (by rw [e]; rfl))]
theorem quoted_two (r : List UInt8) : Lx.quoted (39 :: 39 :: r) = (Lx.quoted r).map fun x => (39 :: x.1, x.2 + 2) := by
  rw [Lx.quoted, if_pos rfl, if_pos rfl]
def strLen : Value → Nat
  | .string s => s.size
  | _ => 0
/-- What the token of a Str is. -/
def quoTok (l : List UInt8) : Nat × List UInt8 × Nat := match Lx.quoted (l.drop 1) with
  | none => (0, [], 0)
  | some x => (4, x.1, x.2 + 1)
/-- So far: what comes of the rest. -/
def QuoAt (l : List UInt8) (m : Nat) (acc : List UInt8) : Prop := 1 ≤ m ∧ m ≤ l.length ∧ acc.length ≤ m ∧ Lx.quoted (l.drop 1) = (Lx.quoted (l.drop m)).map fun x => (acc ++ x.1, x.2 + (m - 1))
theorem quo_no {l acc : List UInt8} {m : Nat} (h : QuoAt l m acc) (hn : ¬ Lx.span (fun c => c != 39) (l.drop m) < (l.drop m).length) : quoTok l = (0, [], 0) := by
  have hz : Lx.span (fun c => c != 39) (l.drop m) = (l.drop m).length := by have := Lx.span_le (fun c => c != 39) (l.drop m); omega
  rw [Lx.span_all] at hz
  have := h.2.2.2
  rw [quoted_none hz] at this
  unfold quoTok
  rw [this]
  rfl
theorem drop_drop' (l : List UInt8) (m n : Nat) : (l.drop m).drop n = l.drop (m + n) := by rw [List.drop_drop]
theorem quo_end {l acc : List UInt8} {m n : Nat} (h : QuoAt l m acc) (hn : n = Lx.span (fun c => c != 39) (l.drop m)) (hlt : n < (l.drop m).length) (h9 : (l.drop (m + n + 1)).head? ≠ some 39) : quoTok l = (4, acc ++ (l.drop m).take n, m + n + 1) := by
  subst hn
  have hs := split_at_span 39 (l.drop m) hlt
  have hall := Lx.span_take (fun c => c != 39) (l.drop m)
  rw [drop_drop', ← Nat.add_assoc] at hs
  have h1 := h.2.2.2
  rw [hs, quoted_skip _ _ hall (by simp), quoted_end h9] at h1
  unfold quoTok
  rw [h1]
  rw [List.length_drop] at hlt
  have := h.1
  simp only [Option.map_some, List.append_nil, List.length_take, List.length_drop]
  congr 2
  omega
theorem quo_on {l acc : List UInt8} {m n : Nat} (h : QuoAt l m acc) (hn : n = Lx.span (fun c => c != 39) (l.drop m)) (hlt : n < (l.drop m).length) (h9 : (l.drop (m + n + 1)).head? = some 39) : QuoAt l (m + n + 2) (acc ++ (l.drop m).take n ++ [39]) := by
  have hs := split_at_span 39 (l.drop m) (by rw [← hn]; exact hlt)
  have hall := Lx.span_take (fun c => c != 39) (l.drop m)
  rw [← hn] at hs hall
  rw [drop_drop', ← Nat.add_assoc] at hs
  obtain ⟨h1, h2, h3, h4⟩ := h
  obtain ⟨z, hz⟩ : ∃ z, l.drop (m + n + 1) = 39 :: z := by
    cases hd : l.drop (m + n + 1) with
    | nil => rw [hd] at h9; cases h9
    | cons a z => rw [hd] at h9; simp at h9; exact ⟨z, by rw [h9]⟩
  have hz2 : l.drop (m + n + 2) = z := by
    rw [show m + n + 2 = (m + n + 1) + 1 from rfl, ← List.drop_drop, hz]
    rfl
  have hlen := congrArg List.length hz
  rw [List.length_drop, List.length_cons] at hlen
  rw [List.length_drop] at hlt
  refine ⟨by omega, by omega, ?_, ?_⟩
  · rw [List.length_append, List.length_append, List.length_take, List.length_drop, List.length_singleton]
    omega
  · have hPl : ((l.drop m).take n).length = n := by rw [List.length_take, List.length_drop]; omega
    rw [hz] at hs
    rw [h4, hz2]
    generalize (l.drop m).take n = P at *
    rw [hs, quoted_skip _ _ hall (by simp), quoted_two]
    cases Lx.quoted z with
    | none => rfl
    | some y =>
      simp only [Option.map_some, List.append_assoc, List.cons_append, List.nil_append, hPl]
      rw [show y.2 + 2 + n + (m - 1) = y.2 + (m + n + 2 - 1) by omega]
set_option maxRecDepth 100000 in
set_option maxHeartbeats 4000000 in
theorem quoted_c (s : ByteArray) (hs : s.size ≤ 500000) (h1 : 1 ≤ s.size) (w : World) (hm : EnvAt w) : Calls Tryd.prog 43 #[.string s] w fun e w' => e = .returned (tokV (quoTok (bs s))) ∧ Grew w w' := by
  have HE := hid hm
  clear hm
  have HX := hid (ext_drop s 1)
  have HG := hid ((Grew.refl w).alloc (.cells #[.int .u8 0, .string ⟨#[]⟩, .int .i64 0] 37))
  have HBk := hid (Blk.new w 37 #[.int .u8 0, .string ⟨#[]⟩, .int .i64 0])
  have HS := hid (show (w.alloc (.cells #[.int .u8 0, .string ⟨#[]⟩, .int .i64 0] 37)).heap.size = w.heap.size + 1 by simp)
  have HL := hid (bs_len s)
  generalize hal : w.alloc (.cells #[.int .u8 0, .string ⟨#[]⟩, .int .i64 0] 37) = wa at *
  have HBld := hid (Bld.new wa (B := w.heap.size + 1) (by rw [HS.out]; exact Nat.le_refl _))
  have HG2 := hid (HG.out.alloc (.cells #[.pointer none, .slice none 0 0] 61))
  have HB2 := hid (HBk.out.grew ((Grew.refl wa).alloc (.cells #[.pointer none, .slice none 0 0] 61)))
  generalize hbl : wa.alloc (.cells #[.pointer none, .slice none 0 0] 61) = wb at *
  generalize hgb : wa.heap.size = gb at *
  generalize hgs : w.heap.size = g at *
  have HGS := hid hgs
  have HQ : Hid (QuoAt (bs s) 1 []) := hid ⟨Nat.le_refl _, by rw [bs_len]; exact h1, Nat.zero_le _, by cases Lx.quoted ((bs s).drop 1) <;> simp⟩
  have hix := HX.out
  go_enter Tryd.func43, Tryd.ntmps43
  go_wp2_with fail
  clear hal hbl hgb hgs hix
  go_loopw [5] (fun s5 wr => ∃ (m : Nat) (r : ByteArray) (acc : List UInt8), s5 = .string r ∧ Hid (r = ofL ((bs s).drop m)) ∧ Hid (QuoAt (bs s) m acc) ∧ Hid (Grew w wr) ∧ Hid (Blk wr g 37 #[.int .u8 0, .string ⟨#[]⟩, .int .i64 0]) ∧ Hid (Bld wr (g + 1) gb acc)) (fun s5 _ => strLen s5)
  case atStart => exact ⟨1, _, [], rfl, hid (by rw [List.drop_one]), HQ, HG2, HB2, HBld⟩
  case round =>
    obtain ⟨m, r, acc, rfl, HR, HQ, HG, HB, HBl⟩ := hrel
    have hrb : bs r = (bs s).drop m := by rw [HR.out, bs_ofL]
    have hrs : r.size = s.size - m := by rw [← bs_len, hrb, List.length_drop, bs_len]
    have hacc := HQ.out.2.2.1
    have hmle := HQ.out.2.1
    rw [bs_len] at hmle
    have hC := cut_c r 39 (by omega) wr (HE.out.grew HG.out).x
    unfold CutTo at hC
    rw [hrb] at hC
    obtain ⟨n, hn⟩ : ∃ n, n = Lx.span (fun c => c != 39) ((bs s).drop m) := ⟨_, rfl⟩
    rw [← hn] at hC
    have hnl : n < ((bs s).drop m).length ↔ n < r.size := by rw [← hrb, bs_len]
    by_cases hlt : n < r.size
    · simp only [if_pos hlt] at hC
      rw [drop_drop', ← Nat.add_assoc] at hC
      have HC := hid hC
      have HXs : Hid ((ofL (((bs s).drop m).take n)).size ≤ 500000) := hid (by rw [ofL_len, List.length_take, ← hrb, bs_len]; omega)
      have HXb := hid (bs_ofL (((bs s).drop m).take n))
      have hYs : (ofL ((bs s).drop (m + n + 1))).size = s.size - (m + n + 1) := by rw [ofL_len, List.length_drop, bs_len]
      have hYs2 : (ofL ((bs s).drop (m + n + 1))).size ≤ s.size := by rw [hYs]; omega
      have HYs := hid hYs
      have hP := cutPrefix_c (ofL ((bs s).drop (m + n + 1))) 39
      rw [bs_ofL, drop_drop'] at hP
      have hlt2 : n < ((bs s).drop m).length := hnl.2 hlt
      have hmn : m + n + 1 ≤ s.size := by omega
      have Hlt : ∀ W : World, Bld W (g + 1) gb acc → g + 1 ≤ W.heap.size := fun W h => by have := h.lt; omega
      by_cases h9 : ((bs s).drop (m + n + 1)).head? = some 39
      · have HQ2 := hid (quo_on HQ.out hn hlt2 h9)
        rw [h9] at hP
        simp only [beq_self_eq_true, if_true] at hP
        have HP := hid hP
        have HZs : Hid ((ofL ((bs s).drop (m + n + 1 + 1))).size < r.size) := hid (by
          rw [ofL_len, List.length_drop, bs_len, hrs]
          have := HQ2.out.2.1
          rw [bs_len] at this
          omega)
        have HL2 : Hid ((acc ++ ((bs s).drop m).take n).length ≤ 1000000) := hid (by
          rw [List.length_append, List.length_take]
          have := List.length_drop (l := bs s) (i := m)
          rw [bs_len] at this
          omega)
        generalize ((bs s).drop m).take n = P at *
        obtain ⟨z, hz⟩ : ∃ z, z = ofL ((bs s).drop (m + n + 1 + 1)) := ⟨_, rfl⟩
        rw [← hz] at HP HZs
        have HZ2 : Hid (z = ofL ((bs s).drop (m + n + 2))) := hid hz
        clear hz
        generalize ofL ((bs s).drop (m + n + 1)) = y at *
        obtain ⟨x, hx⟩ : ∃ x, x = ofL P := ⟨_, rfl⟩
        rw [← hx] at HC HXs HXb
        have HA := hid hacc
        have HM := hid hmle
        clear hC hP hn hnl hlt hlt2 hrb hrs hacc hmle hYs hYs2 hmn h9 hx
        go_wp2_with fail
        refine HC.out.mono ?_
        rintro e w1 ⟨rfl, hg1⟩
        have HG1 := hid (HG.out.trans hg1)
        have HB1 := hid (HB.out.grew hg1)
        have HD1 := hid (HBl.out.grew hg1)
        clear hg1
        go_wp2_with fail
        refine (bWriteString_c (g + 1) gb acc x w1 HD1.out (by have := HA.out; have := HM.out; omega) (by have := HXs.out; omega) (Hlt _ HD1.out)).mono ?_
        rintro e w2 ⟨rfl, hd2, hb2⟩
        rw [HXb.out] at hd2
        have HG2 := hid (HG1.out.below_next hb2 (by have := HGS.out; omega))
        have HB2 := hid (HB1.out.below hb2 (Nat.lt_succ_self g))
        have HD2 := hid hd2
        clear hd2 hb2
        go_wp2_with fail
        refine (HP.out _).mono ?_
        rintro e w3 ⟨rfl, rfl⟩
        go_wp2_with fail
        refine (bWriteString_c (g + 1) gb _ ⟨#[39]⟩ _ HD2.out HL2.out (by decide) (by have := HD2.out.lt; omega)).mono ?_
        rintro e w3 ⟨rfl, hd3, hb3⟩
        have HG3 := hid (HG2.out.below_next hb3 (by have := HGS.out; omega))
        have HB3 := hid (HB2.out.below hb3 (Nat.lt_succ_self g))
        have HD3 := hid hd3
        clear hd3 hb3
        go_wp2_with fail
        go_round
        case rel => exact ⟨m + n + 2, z, _, rfl, hid HZ2.out, HQ2, HG3, HB3, HD3⟩
        case measure => exact HZs.out
      · have HT := hid (quo_end HQ.out hn hlt2 h9)
        have e9 : (((bs s).drop (m + n + 1)).head? == some 39) = false := by rw [beq_eq_false_iff_ne]; exact h9
        rw [e9] at hP
        simp only [Bool.false_eq_true, if_false] at hP
        have HP := hid hP
        have HL2 : Hid ((acc ++ ((bs s).drop m).take n).length ≤ 1000000) := hid (by
          rw [List.length_append, List.length_take]
          have := List.length_drop (l := bs s) (i := m)
          rw [bs_len] at this
          omega)
        generalize ((bs s).drop m).take n = P at *
        generalize ofL ((bs s).drop (m + n + 1)) = y at *
        obtain ⟨x, hx⟩ : ∃ x, x = ofL P := ⟨_, rfl⟩
        rw [← hx] at HC HXs HXb
        have HA := hid hacc
        have HM := hid hmle
        have HN := hid hmn
        clear hC hP hn hnl hlt hlt2 hrb hrs hacc hmle hYs hmn h9 e9 hx
        go_wp2_with fail
        refine HC.out.mono ?_
        rintro e w1 ⟨rfl, hg1⟩
        have HG1 := hid (HG.out.trans hg1)
        have HB1 := hid (HB.out.grew hg1)
        have HD1 := hid (HBl.out.grew hg1)
        clear hg1
        go_wp2_with fail
        refine (bWriteString_c (g + 1) gb acc x w1 HD1.out (by have := HA.out; have := HM.out; omega) (by have := HXs.out; omega) (Hlt _ HD1.out)).mono ?_
        rintro e w2 ⟨rfl, hd2, hb2⟩
        rw [HXb.out] at hd2
        have HG2 := hid (HG1.out.below_next hb2 (by have := HGS.out; omega))
        have HB2 := hid (HB1.out.below hb2 (Nat.lt_succ_self g))
        have HD2 := hid hd2
        clear hd2 hb2
        go_wp2_with fail
        refine (HP.out _).mono ?_
        rintro e w3 ⟨rfl, rfl⟩
        go_wp2_with fail
        refine (bString_c (g + 1) gb _ _ HD2.out (by have := HD2.out.lt; omega)).mono ?_
        rintro e w3 ⟨rfl, hd3, hb3⟩
        have HG3 := hid (HG2.out.below_next hb3 (by have := HGS.out; omega))
        have HB3 := hid (HB2.out.below hb3 (Nat.lt_succ_self g))
        clear hd3 hb3
        have q0 := HB3.out.cell 0
        have q1 := HB3.out.cell 1
        have q2 := HB3.out.cell 2
        have f0 := HB3.out.frozen
        have ql := HB3.out.lt
        simp only [List.getElem?_toArray, List.getElem?_cons_zero, List.getElem?_cons_succ] at q0 q1 q2
        go_wp2_with fail
        refine bodyPost_ret (res_tok Tryd.results43 _ g rfl _ rfl _ _ _ _ (HB3.out.put3 _ _ _)) rfl ⟨?_, (kept3 (F := (· = g)) (Kept.refl _ _) (fun _ => rfl) _ _ _).grew HG3.out (fun k hk => by rw [hk]; exact Nat.le_of_eq HGS.out)⟩
        rw [HT.out]
        show Ending.returned (.tuple #[_, .int .i64 (((s.size : Nat) : Int) - ((y.size : Nat) : Int))]) = _
        have hi : ((s.size : Nat) : Int) - ((y.size : Nat) : Int) = ((m + n + 1 : Nat) : Int) := by have := HYs.out; have := HN.out; omega
        rw [hi]
        rfl
    · simp only [if_neg hlt] at hC
      have HC := hid hC
      have HT := hid (quo_no HQ.out (by rw [← hn, hnl]; exact hlt))
      clear hC hn hnl hlt hrb hrs hacc hmle
      go_wp2_with fail
      refine HC.out.mono ?_
      rintro e w1 ⟨rfl, hg1⟩
      have HG1 := hid (HG.out.trans hg1)
      have HB1 := hid (HB.out.grew hg1)
      clear hg1
      have q0 := HB1.out.cell 0
      have q1 := HB1.out.cell 1
      have q2 := HB1.out.cell 2
      have f0 := HB1.out.frozen
      have ql := HB1.out.lt
      simp only [List.getElem?_toArray, List.getElem?_cons_zero, List.getElem?_cons_succ] at q0 q1 q2
      go_wp2_with fail
      refine bodyPost_ret (res_tok Tryd.results43 _ g rfl _ rfl _ _ _ _ (HB1.out.put3 _ _ _)) rfl ⟨by rw [HT.out]; rfl, (kept3 (F := (· = g)) (Kept.refl _ _) (fun _ => rfl) _ _ _).grew HG1.out (fun k hk => by rw [hk]; exact Nat.le_of_eq HGS.out)⟩
end Go.Proofs.YtdfahmppbfjbhaaDoor

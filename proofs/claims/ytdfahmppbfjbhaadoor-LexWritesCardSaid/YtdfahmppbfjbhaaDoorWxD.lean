/- Stage 13: the program's own isOperator, isWhite, isName, isBinary, isNumeral, May. -/
import Derived.Test.YtdfahmppbfjbhaaDoorWxS
import Derived.Test.YtdfahmppbfjbhaaDoorLxR
namespace Go.Proofs.YtdfahmppbfjbhaaDoor
open Go.RowKit

theorem isOperator_c : Test 41 Lx.isOp := by
  intro c w
  have HI := hid (fun W => Tryd.strings_IndexByte ⟨#[43, 45, 42, 47, 92, 60, 62, 61, 126, 44]⟩ ((c.toNat : Nat) : Int) W)
  have e := idx_ge [43, 45, 42, 47, 92, 60, 62, 61, 126, 44] c
  rw [show (((c.toNat : Nat) : Int)).toNat.toUInt8 = c by simp, show (⟨#[43, 45, 42, 47, 92, 60, 62, 61, 126, 44]⟩ : ByteArray).data.toList = [43, 45, 42, 47, 92, 60, 62, 61, 126, 44] from rfl] at HI
  unfold Lx.isOp
  rw [← e]
  clear e
  generalize Lib.indexByte [43, 45, 42, 47, 92, 60, 62, 61, 126, 44] c = k at *
  go_enter Tryd.func41, Tryd.ntmps41
  go_wp2_with fail
  refine (HI.out _).mono ?_
  rintro e w1 ⟨rfl, rfl⟩
  go_wp2_with fail
  go_ret
  exact ⟨rfl, Grew.refl _⟩
theorem isWhite_c : Test 36 Lx.isW := by
  intro c w
  have HI := hid (fun W => Tryd.strings_IndexByte ⟨#[32, 9, 10, 13]⟩ ((c.toNat : Nat) : Int) W)
  have e := idx_ge [32, 9, 10, 13] c
  rw [show (((c.toNat : Nat) : Int)).toNat.toUInt8 = c by simp, show (⟨#[32, 9, 10, 13]⟩ : ByteArray).data.toList = [32, 9, 10, 13] from rfl] at HI
  unfold Lx.isW
  rw [← e]
  clear e
  generalize Lib.indexByte [32, 9, 10, 13] c = k at *
  go_enter Tryd.func36, Tryd.ntmps36
  go_wp2_with fail
  refine (HI.out _).mono ?_
  rintro e w1 ⟨rfl, rfl⟩
  go_wp2_with fail
  go_ret
  exact ⟨rfl, Grew.refl _⟩
theorem enters_isOp (args : Array Value) (w : World) : (callFunc 41 args).run Tryd.prog w = .ok (.enter 41 args) w := enters_of Tryd.func41 (by kernel_rfl) rfl args w
theorem enters_isW (args : Array Value) (w : World) : (callFunc 36 args).run Tryd.prog w = .ok (.enter 36 args) w := enters_of Tryd.func36 (by kernel_rfl) rfl args w

theorem bs_beq (l m : List UInt8) : (l == m) = decide (l = m) := by
  rw [Bool.eq_iff_iff, beq_iff_eq, decide_eq_true_iff]
theorem nameOf_self {l : List UInt8} (h : 1 ≤ l.length) : (Lx.nameOf l == l) = (l.all Lx.isLD && l.head?.any Lx.isL) := by
  rw [bs_beq, Bool.eq_iff_iff, decide_eq_true_iff, Bool.and_eq_true, ← Lx.span_all]
  unfold Lx.nameOf
  split
  · rename_i hh
    constructor
    · intro e
      refine ⟨?_, hh⟩
      have := congrArg List.length e
      rw [List.length_take] at this
      have := Lx.span_le Lx.isLD l
      omega
    · rintro ⟨e, _⟩
      rw [e, List.take_length]
  · rename_i hh
    constructor
    · intro e
      rw [← e] at h
      simp at h
    · rintro ⟨_, e⟩
      exact absurd e hh
theorem mayT_name {k : Nat} (hk : k = 0 ∨ k = 1 ∨ k = 5) (l : List UInt8) : Lx.mayT k l = ((decide (1 ≤ l.length) && decide (l.length ≤ 64)) && (Lx.nameOf l == l)) := by
  unfold Lx.mayT
  rw [if_pos hk]
  by_cases h : 1 ≤ l.length
  · rw [nameOf_self h]
    simp only [Bool.and_assoc]
  · rw [decide_eq_false h, Bool.false_and, Bool.false_and, Bool.false_and, Bool.false_and]
set_option maxRecDepth 100000 in
set_option maxHeartbeats 1000000 in
theorem isName_c (s : ByteArray) (hs : s.size ≤ 4294967280) (w : World) : Calls Tryd.prog 24 #[.string s] w fun e w' => e = .returned (.bool (Lx.mayT 0 (bs s))) ∧ Grew w w' := by
  have HN := hid (fun W => name_c s hs W)
  have CW := hid (within_c (s.size : Int) 1 64 w)
  rw [mayT_name (.inl rfl), bs_len]
  have e : (decide ((1 : Int) ≤ (s.size : Int)) && decide ((s.size : Int) ≤ 64)) = (decide (1 ≤ s.size) && decide (s.size ≤ 64)) := by
    congr 1 <;> rw [decide_eq_decide] <;> omega
  rw [e] at CW
  have hq : ((ofL (Lx.nameOf (bs s))).toList == s.toList) = (Lx.nameOf (bs s) == bs s) := by rw [str_beq', bs_ofL]
  generalize (decide (1 ≤ s.size) && decide (s.size ≤ 64)) = a at *
  generalize ofL (Lx.nameOf (bs s)) = q at *
  generalize (Lx.nameOf (bs s) == bs s) = b at *
  clear e
  cases a
  · go_enter Tryd.func24, Tryd.ntmps24
    go_wp2_with fail
    refine CW.out.mono ?_
    rintro e w1 ⟨rfl, rfl⟩
    go_wp2_with fail
    go_ret
    exact ⟨rfl, Grew.refl _⟩
  · go_enter Tryd.func24, Tryd.ntmps24
    go_wp2_with fail
    refine CW.out.mono ?_
    rintro e w1 ⟨rfl, rfl⟩
    go_wp2_with fail
    refine (HN.out _).mono ?_
    rintro e w1 ⟨rfl, hg⟩
    go_wp2_with fail
    go_ret
    exact ⟨by rw [Bool.true_and]; rfl, hg⟩
theorem span_len (p : UInt8 → Bool) (l : List UInt8) : decide (((Lx.span p l : Nat) : Int) = ((l.length : Nat) : Int)) = l.all p := by
  rw [Bool.eq_iff_iff, decide_eq_true_iff, ← Lx.span_all]
  omega
set_option maxRecDepth 100000 in
set_option maxHeartbeats 1000000 in
theorem isBinary_c (s : ByteArray) (hs : s.size ≤ 4294967280) (w : World) : Calls Tryd.prog 25 #[.string s] w fun e w' => e = .returned (.bool (Lx.mayT 2 (bs s))) ∧ Grew w w' := by
  have HN := hid (fun W => span_c _ enters_isOp _ isOperator_c s hs W)
  have CW := hid (within_c (s.size : Int) 1 2 w)
  have es := span_len Lx.isOp (bs s)
  rw [show Lx.mayT 2 (bs s) = ((decide (1 ≤ (bs s).length) && decide ((bs s).length ≤ 2)) && (bs s).all Lx.isOp) from rfl]
  rw [bs_len] at es ⊢
  have e : (decide ((1 : Int) ≤ (s.size : Int)) && decide ((s.size : Int) ≤ 2)) = (decide (1 ≤ s.size) && decide (s.size ≤ 2)) := by
    congr 1 <;> rw [decide_eq_decide] <;> omega
  rw [e] at CW
  have ES := hid es
  generalize (decide (1 ≤ s.size) && decide (s.size ≤ 2)) = a at *
  generalize Lx.span Lx.isOp (bs s) = n at *
  generalize (bs s).all Lx.isOp = b at *
  clear e es
  cases a
  · go_enter Tryd.func25, Tryd.ntmps25
    go_wp2_with fail
    refine CW.out.mono ?_
    rintro e w1 ⟨rfl, rfl⟩
    go_wp2_with fail
    go_ret
    exact ⟨rfl, Grew.refl _⟩
  · go_enter Tryd.func25, Tryd.ntmps25
    go_wp2_with fail
    refine CW.out.mono ?_
    rintro e w1 ⟨rfl, rfl⟩
    go_wp2_with fail
    refine (HN.out _).mono ?_
    rintro e w1 ⟨rfl, hg⟩
    go_wp2_with fail
    go_ret
    refine ⟨?_, hg⟩
    rw [Bool.true_and, ← ES.out]
    apply congrArg (fun z => Ending.returned (.bool z))
    rw [Bool.eq_iff_iff]
    simp
theorem mayT_num (l : List UInt8) : Lx.mayT 3 l = ((decide (1 ≤ l.length) && decide (l.length ≤ 700)) && (l.all Lx.isD && (decide (l = [48]) || l.head? != some 48))) := by
  show (decide (1 ≤ l.length) && decide (l.length ≤ 700) && l.all Lx.isD && (decide (l.length = 1) || l.head? != some 48)) = _
  rw [Bool.and_assoc]
  congr 2
  rw [Bool.eq_iff_iff]
  simp only [Bool.or_eq_true, decide_eq_true_eq, bne_iff_ne]
  constructor
  · rintro (h | h)
    · by_cases hh : l.head? = some 48
      · left
        cases l with
        | nil => cases hh
        | cons a r =>
          simp at hh h
          rw [hh, h]
      · exact .inr hh
    · exact .inr h
  · rintro (h | h)
    · left; rw [h]; rfl
    · exact .inr h
set_option maxRecDepth 100000 in
set_option maxHeartbeats 1000000 in
theorem isNumeral_c (s : ByteArray) (hs : s.size ≤ 4294967280) (w : World) : Calls Tryd.prog 26 #[.string s] w fun e w' => e = .returned (.bool (Lx.mayT 3 (bs s))) ∧ Grew w w' := by
  have HN := hid (fun W => span_c _ enters_isD _ isDigit_c s hs W)
  have CW := hid (within_c (s.size : Int) 1 700 w)
  have es := span_len Lx.isD (bs s)
  have e : (decide ((1 : Int) ≤ (s.size : Int)) && decide ((s.size : Int) ≤ 700)) = (decide (1 ≤ (bs s).length) && decide ((bs s).length ≤ 700)) := by
    rw [bs_len]
    congr 1 <;> rw [decide_eq_decide] <;> omega
  rw [mayT_num]
  rw [e] at CW
  clear e
  by_cases ha : (decide (1 ≤ (bs s).length) && decide ((bs s).length ≤ 700)) = true
  · rw [ha] at CW ⊢
    have h0 : 0 < s.size := by
      rw [Bool.and_eq_true, decide_eq_true_eq, bs_len] at ha
      exact ha.1
    obtain ⟨c, r, hb, hc⟩ := bs_cons h0
    rw [bs_len] at es
    have e48 : (s.toList == [48]) = decide (bs s = [48]) := by rw [str_data, bs_beq]
    have eh : ((bs s).head? != some 48) = (((c.toNat : Nat) : Int) != 48) := by
      rw [hb, Bool.eq_iff_iff]
      simp only [List.head?_cons, bne_iff_ne, ne_eq, Option.some.injEq]
      constructor
      · intro h h2
        apply h
        have : c.toNat = 48 := by omega
        exact UInt8.toNat_inj.1 this
      · intro h h2
        apply h
        rw [h2]
        rfl
    rw [eh]
    have fs : ((((Lx.span Lx.isD (bs s) : Nat) : Int)) == ((s.size : Nat) : Int)) = (bs s).all Lx.isD := by
      rw [← es, Bool.eq_iff_iff, beq_iff_eq, decide_eq_true_iff]
    clear ha hb eh es
    generalize Lx.span Lx.isD (bs s) = n at *
    generalize (bs s).all Lx.isD = b at *
    generalize decide (bs s = [48]) = z at *
    obtain ⟨y, hy⟩ : ∃ y, y = (((c.toNat : Nat) : Int) != 48) := ⟨_, rfl⟩
    rw [← hy]
    have fy := hy.symm
    clear hy
    generalize c.toNat = x at *
    cases b
    · go_enter Tryd.func26, Tryd.ntmps26
      go_wp2_with fail
      refine CW.out.mono ?_
      rintro e w1 ⟨rfl, rfl⟩
      go_wp2_with fail
      refine (HN.out _).mono ?_
      rintro e w1 ⟨rfl, hg⟩
      go_wp2_with fail
      go_ret
      exact ⟨rfl, hg⟩
    · cases z
      · go_enter Tryd.func26, Tryd.ntmps26
        go_wp2_with fail
        refine CW.out.mono ?_
        rintro e w1 ⟨rfl, rfl⟩
        go_wp2_with fail
        refine (HN.out _).mono ?_
        rintro e w1 ⟨rfl, hg⟩
        go_wp2_with fail
        go_ret
        exact ⟨by simp, hg⟩
      · go_enter Tryd.func26, Tryd.ntmps26
        go_wp2_with fail
        refine CW.out.mono ?_
        rintro e w1 ⟨rfl, rfl⟩
        go_wp2_with fail
        refine (HN.out _).mono ?_
        rintro e w1 ⟨rfl, hg⟩
        go_wp2_with fail
        go_ret
        exact ⟨by simp, hg⟩
  · rw [Bool.not_eq_true] at ha
    rw [ha] at CW ⊢
    clear ha es
    go_enter Tryd.func26, Tryd.ntmps26
    go_wp2_with fail
    refine CW.out.mono ?_
    rintro e w1 ⟨rfl, rfl⟩
    go_wp2_with fail
    go_ret
    exact ⟨by simp, Grew.refl _⟩
end Go.Proofs.YtdfahmppbfjbhaaDoor

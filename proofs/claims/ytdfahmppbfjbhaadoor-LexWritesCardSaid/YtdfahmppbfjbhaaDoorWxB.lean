/- Stage 13: the program's own tests of a byte; span. -/
import Derived.Test.YtdfahmppbfjbhaaDoorZNum
import Derived.Test.YtdfahmppbfjbhaaDoorWxA
import Derived.Test.YtdfahmppbfjbhaaDoorLxP
import Derived.Lib.Bytealg
import Derived.Deep.Cut
namespace Go.Proofs.YtdfahmppbfjbhaaDoor
open Go.RowKit
open Lx (Word)

/-- The bytes of a text. -/
def bs (s : ByteArray) : List UInt8 := s.data.toList
theorem bs_len (s : ByteArray) : (bs s).length = s.size := by unfold bs; rw [Array.length_toList]; rfl
theorem bs_at (s : ByteArray) (i : Nat) (h : i < s.size) : ∃ c : UInt8, (bs s)[i]? = some c ∧ (s[i]'h).toNat = c.toNat := by
  have h' : i < s.data.size := h
  refine ⟨s[i]'h, ?_, rfl⟩
  unfold bs
  rw [Array.getElem?_toList, Array.getElem?_eq_getElem h']
  rfl
theorem bs_past (s : ByteArray) (i : Nat) (h : s.size ≤ i) : (bs s)[i]? = none := List.getElem?_eq_none (by rw [bs_len]; exact h)

/-- What a test of a byte answers. -/
def Test (f : Nat) (p : UInt8 → Bool) : Prop := ∀ (c : UInt8) (w : World), Calls Tryd.prog f #[.int .u8 ((c.toNat : Nat) : Int)] w fun e w' => e = .returned (.bool (p c)) ∧ Grew w w'
theorem isLetter_c : Test 38 Lx.isL := by
  intro c w
  unfold Lx.isL
  generalize c.toNat = x
  by_cases h1 : 97 ≤ x
  · have t1 : (97 : Int) ≤ ((x : Nat) : Int) := by omega
    by_cases h2 : x ≤ 122
    · have t2 : ((x : Nat) : Int) ≤ 122 := by omega
      rw [decide_eq_true h1, decide_eq_true h2]
      go_enter Tryd.func38, Tryd.ntmps38
      go_wp2_with fail
      go_ret
      exact ⟨rfl, Grew.refl _⟩
    · have t2 : ¬ ((x : Nat) : Int) ≤ 122 := by omega
      have t3 : (65 : Int) ≤ ((x : Nat) : Int) := by omega
      have t4 : ¬ ((x : Nat) : Int) ≤ 90 := by omega
      rw [decide_eq_false h2, decide_eq_false (show ¬ x ≤ 90 by omega), Bool.and_false, Bool.and_false]
      go_enter Tryd.func38, Tryd.ntmps38
      go_wp2_with fail
      go_ret
      exact ⟨rfl, Grew.refl _⟩
  · have t1 : ¬ (97 : Int) ≤ ((x : Nat) : Int) := by omega
    rw [decide_eq_false h1, Bool.false_and, Bool.false_or]
    by_cases h3 : 65 ≤ x
    · have t3 : (65 : Int) ≤ ((x : Nat) : Int) := by omega
      by_cases h4 : x ≤ 90
      · have t4 : ((x : Nat) : Int) ≤ 90 := by omega
        rw [decide_eq_true h3, decide_eq_true h4]
        go_enter Tryd.func38, Tryd.ntmps38
        go_wp2_with fail
        go_ret
        exact ⟨rfl, Grew.refl _⟩
      · have t4 : ¬ ((x : Nat) : Int) ≤ 90 := by omega
        rw [decide_eq_false h4, Bool.and_false]
        go_enter Tryd.func38, Tryd.ntmps38
        go_wp2_with fail
        go_ret
        exact ⟨rfl, Grew.refl _⟩
    · have t3 : ¬ (65 : Int) ≤ ((x : Nat) : Int) := by omega
      rw [decide_eq_false h3, Bool.false_and]
      go_enter Tryd.func38, Tryd.ntmps38
      go_wp2_with fail
      go_ret
      exact ⟨rfl, Grew.refl _⟩
theorem isDigit_c : Test 40 Lx.isD := by
  intro c w
  unfold Lx.isD
  generalize c.toNat = x
  by_cases h1 : 48 ≤ x
  · have t1 : (48 : Int) ≤ ((x : Nat) : Int) := by omega
    by_cases h2 : x ≤ 57
    · have t2 : ((x : Nat) : Int) ≤ 57 := by omega
      rw [decide_eq_true h1, decide_eq_true h2]
      go_enter Tryd.func40, Tryd.ntmps40
      go_wp2_with fail
      go_ret
      exact ⟨rfl, Grew.refl _⟩
    · have t2 : ¬ ((x : Nat) : Int) ≤ 57 := by omega
      rw [decide_eq_false h2, Bool.and_false]
      go_enter Tryd.func40, Tryd.ntmps40
      go_wp2_with fail
      go_ret
      exact ⟨rfl, Grew.refl _⟩
  · have t1 : ¬ (48 : Int) ≤ ((x : Nat) : Int) := by omega
    rw [decide_eq_false h1, Bool.false_and]
    go_enter Tryd.func40, Tryd.ntmps40
    go_wp2_with fail
    go_ret
    exact ⟨rfl, Grew.refl _⟩
theorem isLetterOrDigit_c : Test 61 Lx.isLD := by
  intro c w
  unfold Lx.isLD
  have HL := hid (isLetter_c c)
  have HD := hid (isDigit_c c)
  generalize Lx.isL c = a at *
  generalize Lx.isD c = b at *
  generalize c.toNat = x at *
  cases a
  · go_enter Tryd.func61, Tryd.ntmps61
    go_wp2_with fail
    refine (HL.out _).mono ?_
    rintro e w1 ⟨rfl, hg⟩
    go_wp2_with fail
    refine (HD.out _).mono ?_
    rintro e w2 ⟨rfl, hg2⟩
    go_wp2_with fail
    go_ret
    exact ⟨rfl, hg.trans hg2⟩
  · go_enter Tryd.func61, Tryd.ntmps61
    go_wp2_with fail
    refine (HL.out _).mono ?_
    rintro e w1 ⟨rfl, hg⟩
    go_wp2_with fail
    go_ret
    exact ⟨rfl, hg⟩
theorem idx_ge (l : List UInt8) (c : UInt8) : decide (0 ≤ Lib.indexByte l c) = l.contains c := by
  induction l with
  | nil => rfl
  | cons a r ih =>
    unfold Lib.indexByte
    have := Lib.indexByte_ge r c
    rw [List.contains_cons]
    by_cases h : a = c
    · subst h
      simp
    · rw [if_neg (by simpa using h), ← ih]
      have e : (c == a) = false := by rw [beq_eq_false_iff_ne]; exact fun e => h e.symm
      rw [e, Bool.false_or, decide_eq_decide]
      split
      · rename_i hm
        have := beq_iff_eq.1 hm
        omega
      · rename_i hm
        have : ¬ Lib.indexByte r c = -1 := fun e => hm (by rw [e]; rfl)
        omega
theorem span_all' {p : UInt8 → Bool} {l : List UInt8} {i : Nat} (hi : i ≤ l.length) (h : ∀ j c, j < i → l[j]? = some c → p c = true) : i ≤ Lx.span p l := by
  rcases Nat.lt_or_ge (Lx.span p l) i with hlt | hge
  · exfalso
    have hl := Lx.span_le p l
    have hc := List.getElem?_eq_getElem (l := l) (i := Lx.span p l) (by omega)
    have h1 := Lx.span_end p l _ hc
    have h2 := h _ _ hlt hc
    rw [h1] at h2
    cases h2
  · exact hge
set_option maxRecDepth 100000 in
set_option maxHeartbeats 2000000 in
theorem span_c (g : Nat) (eg : ∀ args w, (callFunc g args).run Tryd.prog w = .ok (.enter g args) w) (p : UInt8 → Bool) (hp : Test g p) (s : ByteArray) (hs : s.size ≤ 4294967280) (w : World) :
    Calls Tryd.prog 35 #[.string s, .func (.func g) #[] #[]] w fun e w' => e = .returned (.int .i64 ((Lx.span p (bs s) : Nat) : Int)) ∧ Grew w w' := by
  obtain ⟨R, hR⟩ : ∃ R, R = Lx.span p (bs s) := ⟨_, rfl⟩
  rw [← hR]
  have HR := hid hR
  have HL := hid (bs_len s)
  have HP := hid hp
  clear hR hp
  obtain ⟨n, hn⟩ : ∃ n, n = s.size := ⟨_, rfl⟩
  have HN := hid hn
  rw [← hn] at hs
  clear hn
  go_enter Tryd.func35, Tryd.ntmps35
  go_wp2_with fail
  go_loopw [5, 8] (fun _ s8 wr => ∃ i : Nat, s8 = .int .i64 ((i : Nat) : Int) ∧ i ≤ n ∧ Grew w wr ∧ Hid (∀ j c, j < i → (bs s)[j]? = some c → p c = true)) (fun _ s8 _ => n - (intOf s8).toNat)
  case atStart => exact ⟨0, rfl, Nat.zero_le _, Grew.refl _, hid (fun j c hj => absurd hj (Nat.not_lt_zero j))⟩
  case round =>
    obtain ⟨i, rfl, hi, hg, HI⟩ := hrel
    have HG := hid hg
    clear hg
    by_cases hlt : i < n
    · have hlt2 : i < s.size := by rw [← HN.out]; exact hlt
      have f1 : (i : Int) < (s.size : Int) := by omega
      obtain ⟨c, hc, hb⟩ := bs_at s i hlt2
      have HC := hid hc
      have hcall := hid (HP.out c)
      have HT : Hid (p c = true → ∀ j d, j < i + 1 → (bs s)[j]? = some d → p d = true) := hid (fun hpc j d hj hd => by
        rcases Nat.lt_or_ge j i with h | h
        · exact HI.out j d h hd
        · obtain rfl : j = i := by omega
          rw [HC.out] at hd
          cases hd
          exact hpc)
      have HX : Hid (p c = false → R = i) := hid (fun hpc => by
        rw [HR.out]
        exact Lx.span_is (by rw [HL.out, ← HN.out]; exact hi) HI.out (fun d hd => by rw [HC.out] at hd; cases hd; exact hpc))
      clear hc
      generalize p c = b at hcall HT HX
      generalize c.toNat = x at *
      cases b
      · go_wp2_with (go_at_fn g; refine (hcall.out _).mono ?_; rintro e w2 ⟨rfl, hg2⟩)
        go_ret
        exact ⟨by rw [HX.out (by trivial)]; rfl, HG.out.trans hg2⟩
      · go_wp2_with (go_at_fn g; refine (hcall.out _).mono ?_; rintro e w2 ⟨rfl, hg2⟩)
        go_round
        case rel => exact ⟨i + 1, by go_num, by omega, HG.out.trans hg2, hid (HT.out (by trivial))⟩
        case measure => simp [intOf]; omega
    · have hin : i = s.size := by have := HN.out; omega
      have hlt2 : ¬ (i : Int) < (s.size : Int) := by omega
      have HZ : Hid (R = s.size) := hid (by
        rw [HR.out]
        refine Lx.span_is (by rw [HL.out]; exact Nat.le_refl _) (fun j c hj => HI.out j c (by rw [hin]; exact hj)) (fun c hc => ?_)
        rw [bs_past s _ (Nat.le_refl _)] at hc
        cases hc)
      clear hin
      go_wp2_with fail
      go_ret
      exact ⟨by rw [HZ.out]; rfl, HG.out⟩
end Go.Proofs.YtdfahmppbfjbhaaDoor

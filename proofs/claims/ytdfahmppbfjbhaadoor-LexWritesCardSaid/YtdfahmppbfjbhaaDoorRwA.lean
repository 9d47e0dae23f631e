/- Stage 13, the document's own: class, at, all, Mark. -/
import Derived.Test.YtdfahmppbfjbhaaDoorWxJ
import Derived.BigQuiet
namespace Go.Proofs.YtdfahmppbfjbhaaDoor
open Go.RowKit

/-- Of which class a byte is. -/
def cls (c : UInt8) : UInt8 := if Lx.isL c then 97 else if Lx.isD c then 48 else if Lx.isOp c then 43 else c
theorem cls_a (c : UInt8) : (cls c == 97) = Lx.isL c := by
  have := Lx.all_u8 (p := fun c => (cls c == 97) == Lx.isL c) (by decide +kernel) c
  simpa using this
theorem cls_0 (c : UInt8) : (cls c == 48) = Lx.isD c := by
  have := Lx.all_u8 (p := fun c => (cls c == 48) == Lx.isD c) (by decide +kernel) c
  simpa using this
theorem cls_p (c : UInt8) : (cls c == 43) = Lx.isOp c := by
  have := Lx.all_u8 (p := fun c => (cls c == 43) == Lx.isOp c) (by decide +kernel) c
  simpa using this
theorem cls_w (c : UInt8) : (cls c == 32 || cls c == 9 || cls c == 10 || cls c == 13) = Lx.isW c := by
  have := Lx.all_u8 (p := fun c => (cls c == 32 || cls c == 9 || cls c == 10 || cls c == 13) == Lx.isW c) (by decide +kernel) c
  simpa using this
theorem u8_beq (a b : UInt8) : ((((a.toNat : Nat) : Int)) == (((b.toNat : Nat) : Int))) = (a == b) := by
  rw [Bool.eq_iff_iff, beq_iff_eq, beq_iff_eq]
  constructor
  · intro h
    exact UInt8.toNat_inj.1 (by omega)
  · rintro rfl; rfl
theorem op_ten {c : UInt8} (h : Lx.isOp c = true) : c = 43 ∨ c = 45 ∨ c = 42 ∨ c = 47 ∨ c = 92 ∨ c = 60 ∨ c = 62 ∨ c = 61 ∨ c = 126 ∨ c = 44 := by
  unfold Lx.isOp at h
  simpa using h
set_option maxRecDepth 100000 in
set_option maxHeartbeats 4000000 in
theorem rclass_c (c : UInt8) (w : World) : Calls Tryd.prog 20 #[.int .u8 ((c.toNat : Nat) : Int)] w fun e w' => e = .returned (.int .u8 (((cls c).toNat : Nat) : Int)) ∧ w' = w := by
  have hlt := c.toNat_lt
  by_cases hl : Lx.isL c = true
  · have e : cls c = 97 := by unfold cls; rw [if_pos hl]
    rw [e, show (((97 : UInt8).toNat : Nat) : Int) = 97 from rfl]
    have hl2 : (97 ≤ c.toNat ∧ c.toNat ≤ 122) ∨ (65 ≤ c.toNat ∧ c.toNat ≤ 90) := by
      unfold Lx.isL at hl
      simpa using hl
    clear hl e
    generalize c.toNat = x at *
    rcases hl2 with ⟨h1, h2⟩ | ⟨h1, h2⟩
    · have t1 : (97 : Int) ≤ ((x : Nat) : Int) := by omega
      have t2 : ((x : Nat) : Int) ≤ 122 := by omega
      go_enter Tryd.func20, Tryd.ntmps20
      go_wp2_with fail
      go_ret
      exact ⟨rfl, rfl⟩
    · have t1 : (65 : Int) ≤ ((x : Nat) : Int) := by omega
      have t2 : ((x : Nat) : Int) ≤ 90 := by omega
      have t3 : ¬ (97 : Int) ≤ ((x : Nat) : Int) := by omega
      go_enter Tryd.func20, Tryd.ntmps20
      go_wp2_with fail
      go_ret
      exact ⟨rfl, rfl⟩
  · have hl2 : ¬ (97 ≤ c.toNat ∧ c.toNat ≤ 122) ∧ ¬ (65 ≤ c.toNat ∧ c.toNat ≤ 90) := by
      unfold Lx.isL at hl
      simp only [Bool.or_eq_true, Bool.and_eq_true, decide_eq_true_eq, not_or] at hl
      exact hl
    by_cases hd : Lx.isD c = true
    · have e : cls c = 48 := by unfold cls; rw [if_neg hl, if_pos hd]
      rw [e, show (((48 : UInt8).toNat : Nat) : Int) = 48 from rfl]
      have hd2 : 48 ≤ c.toNat ∧ c.toNat ≤ 57 := by
        unfold Lx.isD at hd
        simpa using hd
      clear hl hd e
      generalize c.toNat = x at *
      have t1 : (48 : Int) ≤ ((x : Nat) : Int) := by omega
      have t2 : ((x : Nat) : Int) ≤ 57 := by omega
      have t3 : ¬ (97 : Int) ≤ ((x : Nat) : Int) := by omega
      have t4 : ¬ (65 : Int) ≤ ((x : Nat) : Int) := by omega
      go_enter Tryd.func20, Tryd.ntmps20
      go_wp2_with fail
      go_ret
      exact ⟨rfl, rfl⟩
    · have hd2 : ¬ (48 ≤ c.toNat ∧ c.toNat ≤ 57) := by
        unfold Lx.isD at hd
        simpa only [Bool.and_eq_true, decide_eq_true_eq] using hd
      by_cases ho : Lx.isOp c = true
      · have e : cls c = 43 := by unfold cls; rw [if_neg hl, if_neg hd, if_pos ho]
        rw [e, show (((43 : UInt8).toNat : Nat) : Int) = 43 from rfl]
        clear hl hd e hl2 hd2 hlt
        rcases op_ten ho with rfl | rfl | rfl | rfl | rfl | rfl | rfl | rfl | rfl | rfl
        all_goals
          clear ho
          first | rw [show (((43 : UInt8).toNat : Nat) : Int) = 43 from rfl] | rw [show (((45 : UInt8).toNat : Nat) : Int) = 45 from rfl] | rw [show (((42 : UInt8).toNat : Nat) : Int) = 42 from rfl] | rw [show (((47 : UInt8).toNat : Nat) : Int) = 47 from rfl] | rw [show (((92 : UInt8).toNat : Nat) : Int) = 92 from rfl] | rw [show (((60 : UInt8).toNat : Nat) : Int) = 60 from rfl] | rw [show (((62 : UInt8).toNat : Nat) : Int) = 62 from rfl] | rw [show (((61 : UInt8).toNat : Nat) : Int) = 61 from rfl] | rw [show (((126 : UInt8).toNat : Nat) : Int) = 126 from rfl] | rw [show (((44 : UInt8).toNat : Nat) : Int) = 44 from rfl]
          go_enter Tryd.func20, Tryd.ntmps20
          go_wp2_with fail
          go_ret
          exact ⟨rfl, rfl⟩
      · have e : cls c = c := by unfold cls; rw [if_neg hl, if_neg hd, if_neg ho]
        rw [e]
        have hne : ∀ d : UInt8, Lx.isOp d = true → (((c.toNat : Nat) : Int) == ((d.toNat : Nat) : Int)) = false := fun d hd => by
          rw [u8_beq, beq_eq_false_iff_ne]
          rintro rfl
          exact ho hd
        have n0 : (((c.toNat : Nat) : Int) == 43) = false := hne 43 (by decide)
        have n1 : (((c.toNat : Nat) : Int) == 45) = false := hne 45 (by decide)
        have n2 : (((c.toNat : Nat) : Int) == 42) = false := hne 42 (by decide)
        have n3 : (((c.toNat : Nat) : Int) == 47) = false := hne 47 (by decide)
        have n4 : (((c.toNat : Nat) : Int) == 92) = false := hne 92 (by decide)
        have n5 : (((c.toNat : Nat) : Int) == 60) = false := hne 60 (by decide)
        have n6 : (((c.toNat : Nat) : Int) == 62) = false := hne 62 (by decide)
        have n7 : (((c.toNat : Nat) : Int) == 61) = false := hne 61 (by decide)
        have n8 : (((c.toNat : Nat) : Int) == 126) = false := hne 126 (by decide)
        have n9 : (((c.toNat : Nat) : Int) == 44) = false := hne 44 (by decide)
        clear hl hd ho e hne
        generalize c.toNat = x at *
        have d1 : (decide ((97 : Int) ≤ ((x : Nat) : Int)) && decide (((x : Nat) : Int) ≤ 122)) = false := by
          rw [Bool.and_eq_false_iff, decide_eq_false_iff_not, decide_eq_false_iff_not]; omega
        have d2 : (decide ((65 : Int) ≤ ((x : Nat) : Int)) && decide (((x : Nat) : Int) ≤ 90)) = false := by
          rw [Bool.and_eq_false_iff, decide_eq_false_iff_not, decide_eq_false_iff_not]; omega
        have d3 : (decide ((48 : Int) ≤ ((x : Nat) : Int)) && decide (((x : Nat) : Int) ≤ 57)) = false := by
          rw [Bool.and_eq_false_iff, decide_eq_false_iff_not, decide_eq_false_iff_not]; omega
        by_cases a1 : 97 ≤ x
        · have t1 : (97 : Int) ≤ ((x : Nat) : Int) := by omega
          have t2 : ¬ ((x : Nat) : Int) ≤ 122 := by omega
          have t3 : (65 : Int) ≤ ((x : Nat) : Int) := by omega
          have t4 : ¬ ((x : Nat) : Int) ≤ 90 := by omega
          have t5 : (48 : Int) ≤ ((x : Nat) : Int) := by omega
          have t6 : ¬ ((x : Nat) : Int) ≤ 57 := by omega
          clear d1 d2 d3 hl2 hd2
          go_enter Tryd.func20, Tryd.ntmps20
          go_wp2_with fail
          go_ret
          exact ⟨rfl, rfl⟩
        · have t1 : ¬ (97 : Int) ≤ ((x : Nat) : Int) := by omega
          by_cases a2 : 65 ≤ x
          · have t3 : (65 : Int) ≤ ((x : Nat) : Int) := by omega
            have t4 : ¬ ((x : Nat) : Int) ≤ 90 := by omega
            have t5 : (48 : Int) ≤ ((x : Nat) : Int) := by omega
            have t6 : ¬ ((x : Nat) : Int) ≤ 57 := by omega
            clear d1 d2 d3 hl2 hd2
            go_enter Tryd.func20, Tryd.ntmps20
            go_wp2_with fail
            go_ret
            exact ⟨rfl, rfl⟩
          · have t3 : ¬ (65 : Int) ≤ ((x : Nat) : Int) := by omega
            by_cases a3 : 48 ≤ x
            · have t5 : (48 : Int) ≤ ((x : Nat) : Int) := by omega
              have t6 : ¬ ((x : Nat) : Int) ≤ 57 := by omega
              clear d1 d2 d3 hl2 hd2
              go_enter Tryd.func20, Tryd.ntmps20
              go_wp2_with fail
              go_ret
              exact ⟨rfl, rfl⟩
            · have t5 : ¬ (48 : Int) ≤ ((x : Nat) : Int) := by omega
              clear d1 d2 d3 hl2 hd2
              go_enter Tryd.func20, Tryd.ntmps20
              go_wp2_with fail
              go_ret
              exact ⟨rfl, rfl⟩
/-- The class of a byte of a text; 1, where there is none. -/
def atC (l : List UInt8) (i : Nat) : UInt8 := match l[i]? with
  | some c => cls c
  | none => 1
theorem rat_c (s : ByteArray) (i : Nat) (w : World) : Calls Tryd.prog 21 #[.string s, .int .i64 ((i : Nat) : Int)] w fun e w' => e = .returned (.int .u8 (((atC (bs s) i).toNat : Nat) : Int)) ∧ w' = w := by
  by_cases h : i < s.size
  · obtain ⟨c, hc, hb⟩ := bs_at s i h
    have f1 : (i : Int) < ((s.size : Nat) : Int) := by omega
    have HC := hid (fun W => rclass_c c W)
    have e : atC (bs s) i = cls c := by unfold atC; rw [hc]
    rw [e]
    clear e hc
    generalize c.toNat = x at *
    generalize (cls c).toNat = y at *
    go_enter Tryd.func21, Tryd.ntmps21
    go_wp2_with fail
    refine (HC.out _).mono ?_
    rintro e w1 ⟨rfl, rfl⟩
    go_wp2_with fail
    go_ret
    exact ⟨rfl, rfl⟩
  · have f1 : ¬ (i : Int) < ((s.size : Nat) : Int) := by omega
    have e : atC (bs s) i = 1 := by unfold atC; rw [bs_past s i (by omega)]
    rw [e]
    go_enter Tryd.func21, Tryd.ntmps21
    go_wp2_with fail
    go_ret
    exact ⟨rfl, rfl⟩
theorem all_take {p : UInt8 → Bool} {l : List UInt8} {i : Nat} {c : UInt8} (h : (l.take i).all p = true) (hc : l[i]? = some c) : (l.take (i + 1)).all p = p c := by
  rw [List.take_add_one, hc, List.all_append, h]
  simp
set_option maxRecDepth 100000 in
set_option maxHeartbeats 2000000 in
theorem rall_c (s : ByteArray) (a b : UInt8) (hs : s.size ≤ 4294967280) (w : World) : Calls Tryd.prog 27 #[.string s, .int .u8 ((a.toNat : Nat) : Int), .int .u8 ((b.toNat : Nat) : Int)] w fun e w' => e = .returned (.bool ((bs s).all fun c => cls c == a || cls c == b)) ∧ w' = w := by
  obtain ⟨R, hR⟩ : ∃ R, R = (bs s).all fun c => cls c == a || cls c == b := ⟨_, rfl⟩
  rw [← hR]
  have HR := hid hR
  have HL := hid (bs_len s)
  clear hR
  obtain ⟨n, hn⟩ : ∃ n, n = s.size := ⟨_, rfl⟩
  have HN := hid hn
  rw [← hn] at hs
  clear hn
  obtain ⟨x, hx⟩ : ∃ x, x = a.toNat := ⟨_, rfl⟩
  obtain ⟨y, hy⟩ : ∃ y, y = b.toNat := ⟨_, rfl⟩
  rw [← hx, ← hy]
  have HX := hid hx
  have HY := hid hy
  clear hx hy
  go_enter Tryd.func27, Tryd.ntmps27
  go_wp2_with fail
  go_loopw [7] (fun s7 wr => ∃ i : Nat, s7 = .int .i64 ((i : Nat) : Int) ∧ i ≤ n ∧ Hid (((bs s).take i).all (fun c => cls c == a || cls c == b) = true) ∧ wr = w) (fun s7 _ => n - (intOf s7).toNat)
  case atStart => exact ⟨0, rfl, Nat.zero_le _, hid (by simp), rfl⟩
  case round =>
    obtain ⟨i, rfl, hi, HI, rfl⟩ := hrel
    by_cases hlt : i < n
    · have hlt2 : i < s.size := by rw [← HN.out]; exact hlt
      have f1 : (i : Int) < ((s.size : Nat) : Int) := by omega
      obtain ⟨c, hc, hb⟩ := bs_at s i hlt2
      have HC := hid (fun W => rclass_c c W)
      have HT := hid (all_take HI.out hc)
      have HF : Hid ((cls c == a || cls c == b) = false → R = false) := hid (fun hf => by
        rw [HR.out]
        cases hall : (bs s).all fun c => cls c == a || cls c == b
        · rfl
        · have := List.all_eq_true.1 hall c (List.mem_of_getElem? hc)
          rw [hf] at this
          cases this)
      have e1 : ((((cls c).toNat : Nat) : Int) != ((x : Nat) : Int)) = !(cls c == a) := by
        rw [HX.out, bne, u8_beq]
      have e2 : ((((cls c).toNat : Nat) : Int) != ((y : Nat) : Int)) = !(cls c == b) := by
        rw [HY.out, bne, u8_beq]
      clear hc
      generalize (cls c == a) = p at *
      generalize (cls c == b) = q at *
      generalize (cls c).toNat = z at *
      generalize c.toNat = v at *
      cases p
      · cases q
        · have HF2 := hid (HF.out rfl)
          go_wp2_with fail
          refine (HC.out _).mono ?_
          rintro e w1 ⟨rfl, rfl⟩
          go_wp2_with fail
          refine (HC.out _).mono ?_
          rintro e w1 ⟨rfl, rfl⟩
          go_wp2_with fail
          go_ret
          exact ⟨by rw [HF2.out]; rfl, rfl⟩
        · go_wp2_with fail
          refine (HC.out _).mono ?_
          rintro e w1 ⟨rfl, rfl⟩
          go_wp2_with fail
          refine (HC.out _).mono ?_
          rintro e w1 ⟨rfl, rfl⟩
          go_wp2_with fail
          go_round
          case rel => exact ⟨i + 1, by go_num, by omega, hid HT.out, by trivial⟩
          case measure => simp [intOf]; omega
      · go_wp2_with fail
        refine (HC.out _).mono ?_
        rintro e w1 ⟨rfl, rfl⟩
        go_wp2_with fail
        go_round
        case rel => exact ⟨i + 1, by go_num, by omega, hid HT.out, by trivial⟩
        case measure => simp [intOf]; omega
    · have hin : i = s.size := by have := HN.out; omega
      have f1 : ¬ (i : Int) < ((s.size : Nat) : Int) := by omega
      have HT : Hid (R = true) := hid (by
        rw [HR.out]
        have := HI.out
        rwa [hin, ← bs_len, List.take_length] at this)
      clear hin
      go_wp2_with fail
      go_ret
      exact ⟨by rw [HT.out]; rfl, rfl⟩
set_option maxRecDepth 100000 in
set_option maxHeartbeats 4000000 in
theorem rmark_c (k : Nat) (h7 : 7 ≤ k) (h16 : k ≤ 16) (w : World) : ∃ c, Lx.mark k = [c] ∧ Calls Tryd.prog 22 #[.int .i64 ((k : Nat) : Int)] w fun e w' => e = .returned (.int .u8 ((c.toNat : Nat) : Int)) ∧ Grew w w' := by
  have hg := hid ((Grew.refl w).alloc (.cells #[.int .u8 94, .int .u8 59, .int .u8 46, .int .u8 40, .int .u8 41, .int .u8 91, .int .u8 93, .int .u8 124, .int .u8 123, .int .u8 125] 5))
  rcases (by omega : k = 7 ∨ k = 8 ∨ k = 9 ∨ k = 10 ∨ k = 11 ∨ k = 12 ∨ k = 13 ∨ k = 14 ∨ k = 15 ∨ k = 16) with rfl | rfl | rfl | rfl | rfl | rfl | rfl | rfl | rfl | rfl
  all_goals
    refine ⟨_, rfl, ?_⟩
    go_enter Tryd.func22, Tryd.ntmps22
    go_wp2_with fail
    go_ret
    exact ⟨rfl, hg.out⟩
end Go.Proofs.YtdfahmppbfjbhaaDoor

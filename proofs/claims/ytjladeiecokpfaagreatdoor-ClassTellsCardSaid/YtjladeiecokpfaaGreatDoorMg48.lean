/- Texts of this claim in one: ZMuA ZMuC ZMuD. -/
import Derived.Test.YtjladeiecokpfaaGreatDoorZMtP
import Derived.Test.YtjladeiecokpfaaGreatDoorZNum
import Derived.Test.YtjladeiecokpfaaGreatDoorZLgM
import Derived.Test.YtjladeiecokpfaaGreatDoorZRfA
import Derived.BigQuiet
import Derived.Test.YtjladeiecokpfaaGreatDoorZMtJ
import Derived.Test.YtjladeiecokpfaaGreatDoorZRd
section
/- Parts of elder texts that this layer needs, joined: XMuA XMuB. -/
namespace Go.Proofs.YtjladeiecokpfaaGreatDoor.Mt
open Go.RowKit

/-- Character by character: how many colons, and whether a name begins here. -/
def scan : List Nat → Nat → Bool → Option (Nat × Bool)
  | [], n, f => some (n, f)
  | c :: r, n, true => if small c then scan r n false else none
  | c :: r, n, false => if c = 58 then scan r (n + 1) true else if letter c then scan r n false else none
theorem colon_cut : ∀ l : List Nat, 58 ∉ l ∨ ∃ a b, l = a ++ 58 :: b ∧ 58 ∉ a
  | [] => .inl (by simp)
  | x :: l => by
    by_cases h : x = 58
    · subst h
      exact .inr ⟨[], l, rfl, by simp⟩
    · rcases colon_cut l with h1 | ⟨a, b, h1, h2⟩
      · exact .inl (by simp [h1, Ne.symm h])
      · exact .inr ⟨x :: a, b, by rw [h1]; rfl, by simp [h2, Ne.symm h]⟩
theorem scan_letters : ∀ (p : List Nat) (n : Nat), 58 ∉ p → scan p n false = if p.all letter = true then some (n, false) else none
  | [], n, _ => rfl
  | x :: p, n, h => by
    have hx : x ≠ 58 := fun e => h (by simp [e])
    have hp : 58 ∉ p := fun e => h (by simp [e])
    rw [scan, if_neg hx, List.all_cons]
    cases hl : letter x
    · simp
    · rw [if_pos rfl, scan_letters p n hp, Bool.true_and]
theorem scan_letters_colon (r : List Nat) : ∀ (p : List Nat) (n : Nat), 58 ∉ p → scan (p ++ 58 :: r) n false = if p.all letter = true then scan r (n + 1) true else none
  | [], n, _ => by rw [List.nil_append, scan, if_pos rfl]; rfl
  | x :: p, n, h => by
    have hx : x ≠ 58 := fun e => h (by simp [e])
    have hp : 58 ∉ p := fun e => h (by simp [e])
    rw [List.cons_append, scan, if_neg hx, List.all_cons]
    cases hl : letter x
    · simp
    · rw [if_pos rfl, scan_letters_colon r p n hp, Bool.true_and]
theorem isName_cons (x : Nat) (r : List Nat) : isName (x :: r) = (small x && r.all letter) := by
  show (small x && (x :: r).all letter) = _
  rw [List.all_cons]
  cases h : small x
  · rfl
  · rw [small_letter h]; simp
theorem scan_first (p : List Nat) (n : Nat) (h : 58 ∉ p) : scan p n true = if p = [] then some (n, true) else if isName p = true then some (n, false) else none := by
  cases p with
  | nil => rfl
  | cons x r =>
    have hr : 58 ∉ r := fun e => h (by simp [e])
    rw [scan, show (if x :: r = [] then some (n, true) else if isName (x :: r) = true then some (n, false) else none) = (if isName (x :: r) = true then some (n, false) else none) from if_neg (List.cons_ne_nil x r), isName_cons, scan_letters r n hr]
    cases small x <;> simp
theorem scan_first_colon (p r : List Nat) (n : Nat) (h : 58 ∉ p) : scan (p ++ 58 :: r) n true = if isName p = true then scan r (n + 1) true else none := by
  cases p with
  | nil => rfl
  | cons x q =>
    have hq : 58 ∉ q := fun e => h (by simp [e])
    rw [List.cons_append, scan, isName_cons, scan_letters_colon r q n hq]
    cases small x <;> simp
theorem scan_all : ∀ (k : Nat) (l : List Nat) (n : Nat), l.length ≤ k → scan l n true = if l = [] then some (n, true) else if l.getLast? = some 58 then (if (split l.dropLast).all isName = true then some (n + (split l.dropLast).length, true) else none) else (if (split l).all isName = true then some (n + (split l).length - 1, false) else none)
  | k, l, n, hk => by
    rcases colon_cut l with h | ⟨a, b, rfl, h⟩
    · rw [scan_first l n h]
      by_cases h0 : l = []
      · rw [if_pos h0, if_pos h0]
      · have hl : l.getLast? ≠ some 58 := fun e => h (List.mem_of_getLast? e)
        rw [if_neg h0, if_neg h0, if_neg hl, split_one h]
        simp
    · have hne : a ++ 58 :: b ≠ [] := by simp
      rw [scan_first_colon a b n h, if_neg hne]
      match k, hk with
      | 0, hk => rw [List.length_append, List.length_cons] at hk; omega
      | k + 1, hk =>
        have hb := scan_all k b (n + 1) (by rw [List.length_append, List.length_cons] at hk; omega)
        by_cases h0 : b = []
        · subst h0
          have e1 : (a ++ [58]).getLast? = some 58 := by simp
          have e3 : (a ++ [58]).dropLast = a := by simp
          rw [if_pos e1, e3, split_one h, List.all_cons, List.all_nil, Bool.and_true]
          cases isName a <;> rfl
        · rw [if_neg h0] at hb
          have e1 : (a ++ 58 :: b).getLast? = b.getLast? := by
            rw [List.getLast?_append]
            cases b with
            | nil => exact absurd rfl h0
            | cons x t => rw [List.getLast?_cons_cons]; cases hx : (x :: t).getLast? with
              | none => simp at hx
              | some y => rfl
          have e2 : (a ++ 58 :: b).dropLast = a ++ 58 :: b.dropLast := by
            rw [List.dropLast_append_of_ne_nil (by simp)]
            cases b with
            | nil => exact absurd rfl h0
            | cons x t => rfl
          rw [e1, e2, split_two h, split_two h, hb]
          have hp1 : 1 ≤ (split b).length := by
            cases hs : split b with
            | nil => exact absurd hs (split_ne b)
            | cons x y => simp
          rw [List.all_cons, List.all_cons, List.length_cons, List.length_cons]
          generalize (split b.dropLast).all isName = q1
          generalize (split b).all isName = q2
          generalize (split b.dropLast).length = m1
          generalize (split b).length = m2 at *
          generalize isName a = q
          rw [show n + 1 + m1 = n + (m1 + 1) by omega, show n + 1 + m2 - 1 = n + (m2 + 1) - 1 by omega]
          cases q
          · simp
          · simp
theorem split_len_pos (l : List Nat) : 1 ≤ (split l).length := by
  have := split_ne l
  cases h : split l with
  | nil => exact absurd h this
  | cons a b => simp
theorem sign_small {x : Nat} (h : sign x = true) : small x = false := by
  unfold sign signs at h
  simp only [List.contains_cons, List.contains_nil, Bool.or_false, Bool.or_eq_true, beq_iff_eq] at h
  rcases h with h | h | h | h | h | h | h | h | h | h <;> subst h <;> rfl
/-- The head of the first piece. -/
theorem split_head {c : Nat} (r : List Nat) (h : c ≠ 58) : ∃ a t, split (c :: r) = (c :: a) :: t := by
  unfold split
  rw [if_neg h]
  split
  · exact ⟨[], [], rfl⟩
  · exact ⟨_, _, rfl⟩
theorem arity_sign {c : Nat} {r : List Nat} (h : sign c = true) (hl : (c :: r).length ≤ 64) : arity (c :: r) = if isBin (c :: r) = true then some 1 else none := by
  have hc : c ≠ 58 := fun e => by subst e; rw [sign_colon] at h; cases h
  have hs := sign_small h
  unfold arity
  rw [if_neg (by omega)]
  by_cases hlast : (c :: r).getLast? = some 58
  · rw [if_pos hlast]
    have hb : isBin (c :: r) = false := by
      cases hb : isBin (c :: r)
      · rfl
      · unfold isBin at hb
        rw [Bool.and_eq_true] at hb
        have := List.all_eq_true.1 hb.2 58 (List.mem_of_getLast? hlast)
        rw [sign_colon] at this; cases this
    rw [hb, if_neg (by decide)]
    cases r with
    | nil => simp at hlast; exact absurd hlast hc
    | cons y t =>
      rw [List.dropLast_cons_of_ne_nil (by simp)]
      obtain ⟨a, u, e⟩ := split_head (y :: t).dropLast hc
      unfold keys
      rw [e, List.all_cons, isName_cons, hs]
      simp
  · rw [if_neg hlast]
    split
    · rfl
    · rw [isName_cons, hs]
      simp
/-- What the scan tells. -/
def told : Option (Nat × Bool) → Option Nat
  | some (0, _) => some 0
  | some (n + 1, true) => if n + 1 ≤ 8 then some (n + 1) else none
  | _ => none
theorem arity_scan {c : Nat} {r : List Nat} (h : sign c = false) (hl : (c :: r).length ≤ 64) : arity (c :: r) = told (scan (c :: r) 0 true) := by
  rw [scan_all _ (c :: r) 0 (Nat.le_refl _), if_neg (by simp)]
  unfold arity
  rw [if_neg (by omega)]
  by_cases hlast : (c :: r).getLast? = some 58
  · rw [if_pos hlast, if_pos hlast]
    unfold keys
    have hp := split_len_pos (c :: r).dropLast
    generalize split (c :: r).dropLast = S at *
    obtain ⟨n, hn⟩ : ∃ n, S.length = n + 1 := ⟨S.length - 1, by omega⟩
    rw [hn, Nat.zero_add]
    by_cases ha : S.all isName = true
    · rw [if_pos ha]
      show _ = if n + 1 ≤ 8 then some (n + 1) else none
      by_cases h8 : n + 1 ≤ 8
      · rw [if_pos ⟨h8, ha⟩, if_pos h8]
      · rw [if_neg (fun e => h8 e.1), if_neg h8]
    · rw [if_neg ha, if_neg (fun e => ha e.2)]
      rfl
  · rw [if_neg hlast, if_neg hlast]
    have hb : isBin (c :: r) = false := by
      unfold isBin
      rw [List.all_cons, h]
      simp
    rw [hb, if_neg (by decide)]
    rcases colon_cut (c :: r) with hno | ⟨a, b, e, hno⟩
    · rw [split_one hno]
      cases hn : isName (c :: r)
      · simp [hn, told]
      · simp [hn, told]
    · have hn : isName (c :: r) = false := by
        cases hn : isName (c :: r)
        · rfl
        · have := no_colon (isName_all hn).1
          rw [e] at this
          exact absurd (by simp) this
      rw [hn, if_neg (by decide), e, split_two hno]
      have hp := split_len_pos b
      obtain ⟨n, hn⟩ : ∃ n, (split b).length = n + 1 := ⟨(split b).length - 1, by omega⟩
      rw [List.length_cons, hn, show 0 + (n + 1 + 1) - 1 = n + 1 by omega]
      split <;> rfl
end Go.Proofs.YtjladeiecokpfaaGreatDoor.Mt
namespace Go.Proofs.YtjladeiecokpfaaGreatDoor
open Go.RowKit

theorem rsmall_c (x : Nat) (w : World) : Calls Tryz.prog 81 #[.int .u8 ((x : Nat) : Int)] w fun e w' => e = .returned (.bool (Mt.small x)) ∧ w' = w := by
  unfold Mt.small
  by_cases h1 : 97 ≤ x
  · have t1 : (97 : Int) ≤ ((x : Nat) : Int) := by omega
    by_cases h2 : x ≤ 122
    · have t2 : ((x : Nat) : Int) ≤ 122 := by omega
      rw [show (decide (97 ≤ x) && decide (x ≤ 122)) = true by rw [decide_eq_true h1, decide_eq_true h2]; rfl]
      go_enter Tryz.func81, Tryz.ntmps81
      go_wp2_with fail
      go_ret
      exact ⟨rfl, rfl⟩
    · have t2 : ¬ ((x : Nat) : Int) ≤ 122 := by omega
      rw [show (decide (97 ≤ x) && decide (x ≤ 122)) = false by rw [decide_eq_false h2, Bool.and_false]]
      go_enter Tryz.func81, Tryz.ntmps81
      go_wp2_with fail
      go_ret
      exact ⟨rfl, rfl⟩
  · have t1 : ¬ (97 : Int) ≤ ((x : Nat) : Int) := by omega
    rw [show (decide (97 ≤ x) && decide (x ≤ 122)) = false by rw [decide_eq_false h1, Bool.false_and]]
    go_enter Tryz.func81, Tryz.ntmps81
    go_wp2_with fail
    go_ret
    exact ⟨rfl, rfl⟩
theorem sign_mem {x : Nat} (i : Nat) (h : Mt.signs[i]? = some x) : Mt.sign x = true := by
  unfold Mt.sign
  rw [List.contains_iff_mem]
  exact List.mem_of_getElem? h
theorem sign_none {x : Nat} (h : ∀ i, i < 10 → Mt.signs[i]? ≠ some x) : Mt.sign x = false := by
  cases hs : Mt.sign x
  · rfl
  · unfold Mt.sign at hs
    rw [List.contains_iff_mem] at hs
    obtain ⟨i, hi, e⟩ := List.mem_iff_getElem.1 hs
    exact absurd (by rw [List.getElem?_eq_getElem hi, e]) (h i hi)
set_option maxHeartbeats 2000000 in
theorem rsign_c (x : Nat) (w : World) : Calls Tryz.prog 80 #[.int .u8 ((x : Nat) : Int)] w fun e w' => e = .returned (.bool (Mt.sign x)) ∧ w' = w := by
  go_enter Tryz.func80, Tryz.ntmps80
  go_wp2_with fail
  go_loopw [4] (fun s4 wr => ∃ i : Nat, s4 = .int .i64 ((i : Nat) : Int) ∧ i ≤ 10 ∧ Hid (∀ j, j < i → Mt.signs[j]? ≠ some x) ∧ wr = w) (fun s4 _ => 10 - (intOf s4).toNat)
  case atStart => exact ⟨0, rfl, Nat.zero_le _, hid (fun j hj => absurd hj (Nat.not_lt_zero j)), rfl⟩
  case round =>
    obtain ⟨i, rfl, hi, HN, rfl⟩ := hrel
    by_cases hlt : i < 10
    · have hlt' : (i : Int) < 10 := by omega
      have hb := Lg.bytes_at ⟨#[43, 45, 42, 47, 92, 60, 62, 61, 126, 44]⟩ i hlt
      obtain ⟨c, hc⟩ : ∃ c, Mt.signs[i]? = some c := ⟨_, List.getElem?_eq_getElem hlt⟩
      rw [show (Lg.bytes ⟨#[43, 45, 42, 47, 92, 60, 62, 61, 126, 44]⟩).getD i 0 = c by
        rw [List.getD_eq_getElem?_getD, show Lg.bytes ⟨#[43, 45, 42, 47, 92, 60, 62, 61, 126, 44]⟩ = Mt.signs from rfl, hc]; rfl] at hb
      have HC := hid hc
      clear hc
      by_cases hx : x = c
      · have HY := hid (sign_mem i (by rw [HC.out, hx]) : Mt.sign x = true)
        subst hx
        go_wp2_with fail
        go_ret
        exact ⟨congrArg (fun z => Ending.returned (.bool z)) HY.out.symm, rfl⟩
      · have HS : Hid (∀ j, j < i + 1 → Mt.signs[j]? ≠ some x) := hid (fun j hj e => by
          rcases Nat.lt_or_ge j i with h | h
          · exact HN.out j h e
          · obtain rfl : j = i := by omega
            rw [HC.out] at e
            exact hx (Option.some.inj e).symm)
        have f1 : ¬ ((c : Nat) : Int) = ((x : Nat) : Int) := by omega
        go_wp2_with fail
        go_round
        case rel => exact ⟨i + 1, by go_num, by omega, HS, trivial⟩
        case measure => simp [intOf]; omega
    · obtain rfl : i = 10 := by omega
      have HS := hid (sign_none HN.out)
      go_wp2_with fail
      go_ret
      exact ⟨congrArg (fun z => Ending.returned (.bool z)) HS.out.symm, rfl⟩
/-- What the document's Arity answers. -/
def RArPost (w : World) (r : Option Nat) (e : Ending) (w' : World) : Prop := ∃ k : Int, e = .returned (.tuple #[.int .i64 k, .bool r.isSome]) ∧ (∀ n, r = some n → k = ((n : Nat) : Int)) ∧ w' = w
theorem RArPost.none {w : World} {r : Option Nat} {k : Int} (h : r = none) : RArPost w r (.returned (.tuple #[.int .i64 k, .bool false])) w := ⟨k, by rw [h]; rfl, (fun n hn => by rw [h] at hn; cases hn), rfl⟩
theorem RArPost.some {w : World} {r : Option Nat} {n : Nat} {k : Int} (h : r = some n) (hk : k = ((n : Nat) : Int)) : RArPost w r (.returned (.tuple #[.int .i64 k, .bool true])) w := ⟨k, by rw [h]; rfl, (fun m hm => by rw [h] at hm; rw [hk, Option.some.inj hm]), rfl⟩
set_option maxRecDepth 100000 in
set_option maxHeartbeats 4000000 in
theorem rarity_c (s : ByteArray) (w : World) : Calls Tryz.prog 62 #[.string s] w (RArPost w (Mt.arity (Lg.bytes s))) := by
  have HLen := hid (Lg.bytes_len s)
  by_cases h1 : s.size < 1
  · have HN := hid (show Mt.arity (Lg.bytes s) = none by
      have : Lg.bytes s = [] := List.length_eq_zero_iff.1 (by rw [HLen.out]; omega)
      rw [this]; rfl)
    have f1 : (s.size : Int) < 1 := by omega
    go_enter Tryz.func62, Tryz.ntmps62
    go_wp2_with fail
    go_ret2
    exact RArPost.none HN.out
  · have f1 : ¬ (s.size : Int) < 1 := by omega
    by_cases h64 : 64 < s.size
    · have HN := hid (show Mt.arity (Lg.bytes s) = none by unfold Mt.arity; rw [if_pos (by rw [HLen.out]; exact h64)])
      have f2 : (64 : Int) < (s.size : Int) := by omega
      go_enter Tryz.func62, Tryz.ntmps62
      go_wp2_with fail
      go_ret2
      exact RArPost.none HN.out
    · have f2 : ¬ (64 : Int) < (s.size : Int) := by omega
      have hs0 : 0 < s.size := by omega
      have f0 : (0 : Int) < (s.size : Int) := by omega
      have hb0 := Lg.bytes_at s 0 hs0
      obtain ⟨c, r, hcr⟩ : ∃ c r, Lg.bytes s = c :: r := by
        cases h : Lg.bytes s with
        | nil => have := HLen.out; rw [h, List.length_nil] at this; omega
        | cons c r => exact ⟨c, r, rfl⟩
      rw [hcr, List.getD_cons_zero] at hb0
      have hl : (c :: r).length ≤ 64 := by rw [← hcr, HLen.out]; omega
      have HCall := hid (rsign_c c w)
      cases hsg : Mt.sign c
      · rw [hsg] at HCall
        have HA := hid (show Mt.arity (Lg.bytes s) = Mt.told (Mt.scan (Lg.bytes s) 0 true) by rw [hcr]; exact Mt.arity_scan hsg hl)
        obtain ⟨R, hR⟩ : ∃ R, R = Mt.scan (Lg.bytes s) 0 true := ⟨_, rfl⟩
        rw [← hR] at HA
        have HR := hid hR
        clear hR
        clear hcr hl hsg
        go_enter Tryz.func62, Tryz.ntmps62
        go_wp2_with fail
        refine HCall.out.mono ?_
        rintro e w1 ⟨rfl, rfl⟩
        clear hb0
        go_wp2_with fail
        go_loopw [5, 6, 7, 8] (fun s5 s6 s7 _ wr => ∃ (n i : Nat) (f : Bool), s5 = .int .i64 ((n : Nat) : Int) ∧ s6 = .bool f ∧ s7 = .int .i64 ((i : Nat) : Int) ∧ i ≤ s.size ∧ n ≤ i ∧ Hid (Mt.scan ((Lg.bytes s).drop i) n f = R) ∧ wr = w1) (fun _ _ s7 _ _ => s.size - (intOf s7).toNat)
        case atStart => exact ⟨0, 0, true, rfl, rfl, rfl, Nat.zero_le _, Nat.le_refl _, hid HR.out.symm, rfl⟩
        case round =>
          obtain ⟨n, i, f, rfl, rfl, rfl, hi, hni, HS, rfl⟩ := hrel
          by_cases hlt : i < s.size
          · have hlt' : (i : Int) < (s.size : Int) := by omega
            have hb := Lg.bytes_at s i hlt
            have hdr : (Lg.bytes s).drop i = (Lg.bytes s).getD i 0 :: (Lg.bytes s).drop (i + 1) := by
              rw [List.drop_eq_getElem_cons (by rw [HLen.out]; exact hlt), List.getD_eq_getElem?_getD, List.getElem?_eq_getElem (by rw [HLen.out]; exact hlt)]
              rfl
            have HS' := HS.out
            rw [hdr] at HS'
            generalize (Lg.bytes s).getD i 0 = x at hb HS'
            clear hdr
            have HSm := hid (rsmall_c x wr)
            cases f
            · unfold Mt.scan at HS'
              by_cases h58 : x = 58
              · rw [if_pos h58] at HS'
                have HS2 := hid HS'
                subst h58
                clear HS'
                go_wp2_with fail
                go_round
                case rel => exact ⟨n + 1, i + 1, true, by go_num, rfl, by go_num, by omega, by omega, HS2, trivial⟩
                case measure => simp [intOf]; omega
              · have f5 : ¬ ((x : Nat) : Int) = 58 := by omega
                rw [if_neg h58] at HS'
                unfold Mt.letter Mt.capital Mt.digit at HS'
                cases hsm : Mt.small x
                · rw [hsm] at HSm HS'
                  by_cases hc : 65 ≤ x ∧ x ≤ 90
                  · obtain ⟨c1, c2⟩ := hc
                    rw [decide_eq_true c1, decide_eq_true c2] at HS'
                    have HS2 := hid HS'
                    have g1 : ¬ ((x : Nat) : Int) < 65 := by omega
                    have g2 : ¬ (90 : Int) < ((x : Nat) : Int) := by omega
                    clear HS' hsm
                    go_wp2_with fail
                    refine HSm.out.mono ?_
                    rintro e w1 ⟨rfl, rfl⟩
                    go_wp2_with fail
                    go_round
                    case rel => exact ⟨n, i + 1, false, rfl, rfl, by go_num, by omega, by omega, HS2, trivial⟩
                    case measure => simp [intOf]; omega
                  · have hcap : (decide (65 ≤ x) && decide (x ≤ 90)) = false := by
                      rw [Bool.and_eq_false_iff, decide_eq_false_iff_not, decide_eq_false_iff_not]; omega
                    by_cases hd : 48 ≤ x ∧ x ≤ 57
                    · obtain ⟨c1, c2⟩ := hd
                      rw [hcap, decide_eq_true c1, decide_eq_true c2] at HS'
                      have HS2 := hid HS'
                      have g1 : ((x : Nat) : Int) < 65 := by omega
                      have g3 : ¬ ((x : Nat) : Int) < 48 := by omega
                      have g4 : ¬ (57 : Int) < ((x : Nat) : Int) := by omega
                      clear HS' hsm hcap hc
                      go_wp2_with fail
                      refine HSm.out.mono ?_
                      rintro e w1 ⟨rfl, rfl⟩
                      go_wp2_with fail
                      go_round
                      case rel => exact ⟨n, i + 1, false, rfl, rfl, by go_num, by omega, by omega, HS2, trivial⟩
                      case measure => simp [intOf]; omega
                    · have hdig : (decide (48 ≤ x) && decide (x ≤ 57)) = false := by
                        rw [Bool.and_eq_false_iff, decide_eq_false_iff_not, decide_eq_false_iff_not]; omega
                      rw [hcap, hdig] at HS'
                      have HN := hid (show Mt.arity (Lg.bytes s) = none by rw [HA.out, ← HS']; rfl)
                      clear HS' hsm hcap hdig
                      rcases (show x < 48 ∨ (57 < x ∧ x < 65) ∨ 90 < x by omega) with h | ⟨h, h'⟩ | h
                      · have g1 : ((x : Nat) : Int) < 65 := by omega
                        have g2 : ((x : Nat) : Int) < 48 := by omega
                        go_wp2_with fail
                        refine HSm.out.mono ?_
                        rintro e w1 ⟨rfl, rfl⟩
                        go_wp2_with fail
                        go_ret2
                        exact RArPost.none HN.out
                      · have g1 : ((x : Nat) : Int) < 65 := by omega
                        have g2 : ¬ ((x : Nat) : Int) < 48 := by omega
                        have g3 : (57 : Int) < ((x : Nat) : Int) := by omega
                        go_wp2_with fail
                        refine HSm.out.mono ?_
                        rintro e w1 ⟨rfl, rfl⟩
                        go_wp2_with fail
                        go_ret2
                        exact RArPost.none HN.out
                      · have g1 : ¬ ((x : Nat) : Int) < 65 := by omega
                        have g2 : (90 : Int) < ((x : Nat) : Int) := by omega
                        have g3 : ¬ ((x : Nat) : Int) < 48 := by omega
                        have g4 : (57 : Int) < ((x : Nat) : Int) := by omega
                        go_wp2_with fail
                        refine HSm.out.mono ?_
                        rintro e w1 ⟨rfl, rfl⟩
                        go_wp2_with fail
                        go_ret2
                        exact RArPost.none HN.out
                · rw [hsm] at HSm HS'
                  have HS2 := hid HS'
                  clear HS' hsm
                  go_wp2_with fail
                  refine HSm.out.mono ?_
                  rintro e w1 ⟨rfl, rfl⟩
                  go_wp2_with fail
                  go_round
                  case rel => exact ⟨n, i + 1, false, rfl, rfl, by go_num, by omega, by omega, HS2, trivial⟩
                  case measure => simp [intOf]; omega
            · unfold Mt.scan at HS'
              cases hsm : Mt.small x
              · rw [hsm] at HSm HS'
                have HN := hid (show Mt.arity (Lg.bytes s) = none by rw [HA.out, ← HS']; rfl)
                clear HS' hsm
                go_wp2_with fail
                refine HSm.out.mono ?_
                rintro e w1 ⟨rfl, rfl⟩
                go_wp2_with fail
                go_ret2
                exact RArPost.none HN.out
              · rw [hsm] at HSm HS'
                have HS2 := hid HS'
                clear HS' hsm
                go_wp2_with fail
                refine HSm.out.mono ?_
                rintro e w1 ⟨rfl, rfl⟩
                go_wp2_with fail
                go_round
                case rel => exact ⟨n, i + 1, false, rfl, rfl, by go_num, by omega, by omega, HS2, trivial⟩
                case measure => simp [intOf]; omega
          · obtain rfl : i = s.size := by omega
            have hA := HA.out
            rw [← HS.out, List.drop_eq_nil_of_le (by rw [HLen.out]; exact Nat.le_refl _)] at hA
            unfold Mt.scan at hA
            cases n with
            | zero =>
              have HN := hid (show Mt.arity (Lg.bytes s) = some 0 from hA)
              clear hA HS
              go_wp2_with fail
              go_ret2
              exact RArPost.some HN.out rfl
            | succ n =>
              have g0 : ¬ (((n + 1 : Nat) : Nat) : Int) = 0 := by omega
              cases f
              · have HN := hid (show Mt.arity (Lg.bytes s) = none from hA)
                clear hA HS
                go_wp2_with fail
                go_ret2
                exact RArPost.none HN.out
              · by_cases h8 : n + 1 ≤ 8
                · have HN := hid (show Mt.arity (Lg.bytes s) = some (n + 1) by rw [hA]; exact if_pos h8)
                  have g1 : ¬ (8 : Int) < (((n + 1 : Nat) : Nat) : Int) := by omega
                  clear hA HS
                  go_wp2_with fail
                  go_ret2
                  exact RArPost.some HN.out rfl
                · have HN := hid (show Mt.arity (Lg.bytes s) = none by rw [hA]; exact if_neg h8)
                  have g1 : (8 : Int) < (((n + 1 : Nat) : Nat) : Int) := by omega
                  clear hA HS
                  go_wp2_with fail
                  go_ret2
                  exact RArPost.none HN.out
      · rw [hsg] at HCall
        have hA : Mt.arity (Lg.bytes s) = if Mt.isBin (c :: r) = true then some 1 else none := by rw [hcr]; exact Mt.arity_sign hsg hl
        by_cases hone : s.size = 1
        · have HA := hid (show Mt.arity (Lg.bytes s) = some 1 by
            rw [hA, if_pos]
            have : r = [] := List.length_eq_zero_iff.1 (by have := HLen.out; rw [hcr, List.length_cons] at this; omega)
            subst this
            simp [Mt.isBin, hsg])
          have f3 : (s.size : Int) = 1 := by omega
          clear hcr hl hsg hA
          go_enter Tryz.func62, Tryz.ntmps62
          go_wp2_with fail
          refine HCall.out.mono ?_
          rintro e w1 ⟨rfl, rfl⟩
          go_wp2_with fail
          go_ret2
          exact RArPost.some HA.out rfl
        · have f3 : ¬ (s.size : Int) = 1 := by omega
          by_cases htwo : s.size = 2 ∧ Mt.isBin (c :: r) = true
          · obtain ⟨htwo, hbin⟩ := htwo
            have HA := hid (show Mt.arity (Lg.bytes s) = some 1 by rw [hA, if_pos hbin])
            have f4 : (s.size : Int) = 2 := by omega
            have h1' : 1 < s.size := by omega
            have hb1 := Lg.bytes_at s 1 h1'
            have HCall2 := hid (rsign_c ((Lg.bytes s).getD 1 0) w)
            have hd : Mt.sign ((Lg.bytes s).getD 1 0) = true := by
              have h2 := HLen.out
              rw [hcr, List.length_cons] at h2
              unfold Mt.isBin at hbin
              rw [Bool.and_eq_true] at hbin
              refine List.all_eq_true.1 hbin.2 _ ?_
              rw [hcr, List.getD_eq_getElem?_getD]
              cases r with
              | nil => rw [List.length_nil] at h2; omega
              | cons d t => simp
            rw [hd] at HCall2
            generalize (Lg.bytes s).getD 1 0 = d at hb1 HCall2
            clear hcr hl hsg hA hd hbin
            go_enter Tryz.func62, Tryz.ntmps62
            go_wp2_with fail
            refine HCall.out.mono ?_
            rintro e w1 ⟨rfl, rfl⟩
            go_wp2_with fail
            refine HCall2.out.mono ?_
            rintro e w1 ⟨rfl, rfl⟩
            go_wp2_with fail
            go_ret2
            exact RArPost.some HA.out rfl
          · have hbin : Mt.isBin (c :: r) = false := by
              cases hb : Mt.isBin (c :: r)
              · rfl
              · exfalso
                refine htwo ⟨?_, hb⟩
                unfold Mt.isBin at hb
                rw [Bool.and_eq_true, Bool.and_eq_true, decide_eq_true_iff, decide_eq_true_iff, ← hcr, HLen.out] at hb
                omega
            have HA := hid (show Mt.arity (Lg.bytes s) = none by rw [hA, hbin, if_neg (by decide)])
            by_cases h2 : s.size = 2
            · have f4 : (s.size : Int) = 2 := by omega
              have h1' : 1 < s.size := by omega
              have hb1 := Lg.bytes_at s 1 h1'
              have HCall2 := hid (rsign_c ((Lg.bytes s).getD 1 0) w)
              have hd : Mt.sign ((Lg.bytes s).getD 1 0) = false := by
                have h3 := HLen.out
                rw [hcr, List.length_cons, h2] at h3
                rw [hcr]
                match r, h3, hbin with
                | [d], _, hbin =>
                  simp [Mt.isBin, hsg] at hbin
                  simpa using hbin
              rw [hd] at HCall2
              generalize (Lg.bytes s).getD 1 0 = d at hb1 HCall2
              clear hcr hl hsg hA hd hbin htwo
              go_enter Tryz.func62, Tryz.ntmps62
              go_wp2_with fail
              refine HCall.out.mono ?_
              rintro e w1 ⟨rfl, rfl⟩
              go_wp2_with fail
              refine HCall2.out.mono ?_
              rintro e w1 ⟨rfl, rfl⟩
              clear hb0 hb1
              go_wp2_with fail
              go_loopw [4] (fun s4 wr => ∃ i : Nat, s4 = .int .i64 ((i : Nat) : Int) ∧ i ≤ s.size ∧ wr = w1) (fun s4 _ => s.size - (intOf s4).toNat)
              case atStart => exact ⟨0, rfl, Nat.zero_le _, rfl⟩
              case round =>
                obtain ⟨i, rfl, hi, rfl⟩ := hrel
                by_cases hlt : i < s.size
                · have hlt' : (i : Int) < (s.size : Int) := by omega
                  have hb := Lg.bytes_at s i hlt
                  generalize (Lg.bytes s).getD i 0 = x at hb
                  have HX := hid (rsign_c x wr)
                  cases hq : Mt.sign x
                  · rw [hq] at HX
                    clear hq
                    go_wp2_with fail
                    refine HX.out.mono ?_
                    rintro e w1 ⟨rfl, rfl⟩
                    go_wp2_with fail
                    go_ret2
                    exact RArPost.none HA.out
                  · rw [hq] at HX
                    clear hq
                    go_wp2_with fail
                    refine HX.out.mono ?_
                    rintro e w1 ⟨rfl, rfl⟩
                    go_wp2_with fail
                    go_round
                    case rel => exact ⟨i + 1, by go_num, by omega, trivial⟩
                    case measure => simp [intOf]; omega
                · go_wp2_with fail
                  go_ret2
                  exact RArPost.none HA.out
            · have f4 : ¬ (s.size : Int) = 2 := by omega
              clear hcr hl hsg hA hbin htwo
              go_enter Tryz.func62, Tryz.ntmps62
              go_wp2_with fail
              refine HCall.out.mono ?_
              rintro e w1 ⟨rfl, rfl⟩
              clear hb0
              go_wp2_with fail
              rw [show (((s.size : Nat) : Int) == 1) = false by rw [beq_eq_false_iff_ne]; exact f3]
              go_loopw [4] (fun s4 wr => ∃ i : Nat, s4 = .int .i64 ((i : Nat) : Int) ∧ i ≤ s.size ∧ wr = w1) (fun s4 _ => s.size - (intOf s4).toNat)
              case atStart => exact ⟨0, rfl, Nat.zero_le _, rfl⟩
              case round =>
                obtain ⟨i, rfl, hi, rfl⟩ := hrel
                by_cases hlt : i < s.size
                · have hlt' : (i : Int) < (s.size : Int) := by omega
                  have hb := Lg.bytes_at s i hlt
                  generalize (Lg.bytes s).getD i 0 = x at hb
                  have HX := hid (rsign_c x wr)
                  cases hq : Mt.sign x
                  · rw [hq] at HX
                    clear hq
                    go_wp2_with fail
                    refine HX.out.mono ?_
                    rintro e w1 ⟨rfl, rfl⟩
                    go_wp2_with fail
                    go_ret2
                    exact RArPost.none HA.out
                  · rw [hq] at HX
                    clear hq
                    go_wp2_with fail
                    refine HX.out.mono ?_
                    rintro e w1 ⟨rfl, rfl⟩
                    go_wp2_with fail
                    go_round
                    case rel => exact ⟨i + 1, by go_num, by omega, trivial⟩
                    case measure => simp [intOf]; omega
                · go_wp2_with fail
                  go_ret2
                  exact RArPost.none HA.out
end Go.Proofs.YtjladeiecokpfaaGreatDoor
end

section
/- Parts of elder texts that this layer needs, joined: XMuC. -/
namespace Go.Proofs.YtjladeiecokpfaaGreatDoor
open Go.RowKit

/-- A part of the first p + 1, or none. -/
def InTo (p : Nat) (q : Int) : Prop := q = -1 ∨ (0 ≤ q ∧ q ≤ (p : Int))
theorem into_outer {l : List PV} {p j : Nat} {v : PV} (hh : HeadsTo l (p + 1)) (hj : j ≤ p) (hv : l[j]? = some v) : InTo p v.p.outer := by
  have := hh j v (by omega) hv
  simp only [Mt.headOk, Bool.and_eq_true] at this
  have h1 := this.1.1
  unfold Mt.outerOk at h1
  split at h1
  · exact .inl (decide_eq_true_iff.1 h1)
  · simp only [Bool.and_eq_true, decide_eq_true_eq] at h1
    exact .inr ⟨h1.1, by omega⟩
theorem into_up {l : List PV} {p : Nat} (hp : p < l.length) (hh : HeadsTo l (p + 1)) : ∀ (k : Nat) (q : Int), InTo p q → InTo p (Mt.up (l.map (·.p)) k q)
  | 0, _, h => h
  | k + 1, q, h => by
    unfold Mt.up
    split
    · exact h
    · rcases h with h | ⟨h1, h2⟩
      · omega
      · have hi : q.toNat < l.length := by omega
        rw [List.getElem?_map, List.getElem?_eq_getElem hi]
        exact into_up hp hh k _ (into_outer hh (by omega) (List.getElem?_eq_getElem hi))
section
variable {lits : List Mt.Lit} {vs : List PV} {A1 A2 : Option Addr} {n1 n2 c1 c2 : Nat} {vars classes : Int} {p : Nat} {oa ob : Int} {w : World} {sel : ByteArray}
/-- What 'fits' is called in. -/
structure RfIn (w : World) (lits : List Mt.Lit) (vs : List PV) (A1 A2 : Option Addr) (n1 n2 p : Nat) (oa ob : Int) : Prop where
  l : LitsAt w A1 lits
  v : PartsAt w A2 vs
  hn1 : n1 = lits.length
  hn2 : n2 = vs.length
  ok : ∀ x ∈ lits, Mt.LitOk x
  heads : HeadsTo vs (p + 1)
  hp : p < n2
  ha : 0 ≤ oa ∧ oa ≤ 1000000
  hb : 0 ≤ ob ∧ ob ≤ 1000000
/-- The boxes of the two structs. -/
def rfW (w : World) (sel : ByteArray) (A1 : Option Addr) (n1 c1 : Nat) (A2 : Option Addr) (n2 c2 : Nat) (cd : Nat) (oa ob : Int) : World :=
  (w.alloc (.cells #[.string sel, .slice A1 n1 c1, .slice A2 n2 c2] 67)).alloc (.cells #[.int .u8 ((cd : Nat) : Int), .int .i64 oa, .int .i64 ob] 118)
theorem rfW_grew {cd : Nat} : Grew w (rfW w sel A1 n1 c1 A2 n2 c2 cd oa ob) := ((Grew.refl w).alloc _).alloc _
def Rf (w : World) (sel : ByteArray) (A1 : Option Addr) (n1 c1 : Nat) (A2 : Option Addr) (n2 c2 : Nat) (vars classes : Int) (p cd : Nat) (oa ob : Int) (b : Bool) : Prop :=
  Calls Tryz.prog 66 #[.agg #[.string sel, .slice A1 n1 c1, .slice A2 n2 c2], .int .i64 ((p : Nat) : Int), .agg #[.int .u8 ((cd : Nat) : Int), .int .i64 oa, .int .i64 ob], .int .i64 vars, .int .i64 classes] w (AlPost w b)
set_option maxRecDepth 100000 in
set_option maxHeartbeats 1000000 in
theorem rf_var7 (_h : RfIn w lits vs A1 A2 n1 n2 p oa ob) : Rf w sel A1 n1 c1 A2 n2 c2 vars classes p 7 oa ob (decide (oa < vars)) := by
  have HG := hid (rfW_grew (w := w) (sel := sel) (A1 := A1) (n1 := n1) (c1 := c1) (A2 := A2) (n2 := n2) (c2 := c2) (cd := 7) (oa := oa) (ob := ob))
  unfold Rf
  unfold rfW at HG
  rw [show (((7 : Nat) : Nat) : Int) = 7 from rfl] at HG ⊢
  go_enter Tryz.func66, Tryz.ntmps66
  go_wp2_with fail
  go_ret
  exact ⟨rfl, HG.out⟩
set_option maxRecDepth 100000 in
set_option maxHeartbeats 1000000 in
theorem rf_var8 (_h : RfIn w lits vs A1 A2 n1 n2 p oa ob) : Rf w sel A1 n1 c1 A2 n2 c2 vars classes p 8 oa ob (decide (oa < vars)) := by
  have HG := hid (rfW_grew (w := w) (sel := sel) (A1 := A1) (n1 := n1) (c1 := c1) (A2 := A2) (n2 := n2) (c2 := c2) (cd := 8) (oa := oa) (ob := ob))
  unfold Rf
  unfold rfW at HG
  rw [show (((8 : Nat) : Nat) : Int) = 8 from rfl] at HG ⊢
  go_enter Tryz.func66, Tryz.ntmps66
  go_wp2_with fail
  go_ret
  exact ⟨rfl, HG.out⟩
set_option maxRecDepth 100000 in
set_option maxHeartbeats 1000000 in
theorem rf_class (_h : RfIn w lits vs A1 A2 n1 n2 p oa ob) : Rf w sel A1 n1 c1 A2 n2 c2 vars classes p 20 oa ob (decide (oa < classes)) := by
  have HG := hid (rfW_grew (w := w) (sel := sel) (A1 := A1) (n1 := n1) (c1 := c1) (A2 := A2) (n2 := n2) (c2 := c2) (cd := 20) (oa := oa) (ob := ob))
  unfold Rf
  unfold rfW at HG
  rw [show (((20 : Nat) : Nat) : Int) = 20 from rfl] at HG ⊢
  go_enter Tryz.func66, Tryz.ntmps66
  go_wp2_with fail
  go_ret
  exact ⟨rfl, HG.out⟩
set_option maxRecDepth 100000 in
set_option maxHeartbeats 1000000 in
theorem rf_home (_h : RfIn w lits vs A1 A2 n1 n2 p oa ob) : Rf w sel A1 n1 c1 A2 n2 c2 vars classes p 19 oa ob (!(decide (p = 0))) := by
  have HG := hid (rfW_grew (w := w) (sel := sel) (A1 := A1) (n1 := n1) (c1 := c1) (A2 := A2) (n2 := n2) (c2 := c2) (cd := 19) (oa := oa) (ob := ob))
  unfold Rf
  unfold rfW at HG
  rw [show (((19 : Nat) : Nat) : Int) = 19 from rfl] at HG ⊢
  by_cases hc : p = 0
  · subst hc
    go_enter Tryz.func66, Tryz.ntmps66
    go_wp2_with fail
    go_ret
    exact ⟨rfl, HG.out⟩
  · have e1 : (((p : Nat) : Int) == 0) = false := by rw [beq_eq_false_iff_ne]; omega
    rw [decide_eq_false hc]
    have HE := hid e1
    clear hc
    go_enter Tryz.func66, Tryz.ntmps66
    go_wp2_with fail
    go_ret
    exact ⟨congrArg (fun z => Ending.returned (.bool z)) (show ((((p : Nat) : Int)) != 0) = !false by rw [bne, HE.out]), HG.out⟩
set_option maxRecDepth 100000 in
set_option maxHeartbeats 1000000 in
theorem rf_me (_h : RfIn w lits vs A1 A2 n1 n2 p oa ob) : Rf w sel A1 n1 c1 A2 n2 c2 vars classes p 18 oa ob (decide (p = 0)) := by
  have HG := hid (rfW_grew (w := w) (sel := sel) (A1 := A1) (n1 := n1) (c1 := c1) (A2 := A2) (n2 := n2) (c2 := c2) (cd := 18) (oa := oa) (ob := ob))
  unfold Rf
  unfold rfW at HG
  rw [show (((18 : Nat) : Nat) : Int) = 18 from rfl] at HG ⊢
  by_cases hc : p = 0
  · subst hc
    go_enter Tryz.func66, Tryz.ntmps66
    go_wp2_with fail
    go_ret
    exact ⟨rfl, HG.out⟩
  · have e1 : (((p : Nat) : Int) == 0) = false := by rw [beq_eq_false_iff_ne]; omega
    rw [decide_eq_false hc]
    clear hc
    go_enter Tryz.func66, Tryz.ntmps66
    go_wp2_with fail
    go_ret
    exact ⟨rfl, HG.out⟩
set_option maxRecDepth 100000 in
set_option maxHeartbeats 1000000 in
theorem rf_other (_h : RfIn w lits vs A1 A2 n1 n2 p oa ob) {cd : Nat} (hc : cd ≠ 4 ∧ cd ≠ 5 ∧ cd ≠ 6 ∧ cd ≠ 7 ∧ cd ≠ 8 ∧ cd ≠ 11 ∧ cd ≠ 12 ∧ cd ≠ 16 ∧ cd ≠ 18 ∧ cd ≠ 19 ∧ cd ≠ 20) : Rf w sel A1 n1 c1 A2 n2 c2 vars classes p cd oa ob true := by
  have HG := hid (rfW_grew (w := w) (sel := sel) (A1 := A1) (n1 := n1) (c1 := c1) (A2 := A2) (n2 := n2) (c2 := c2) (cd := cd) (oa := oa) (ob := ob))
  unfold Rf
  unfold rfW at HG
  have e4 : (((cd : Nat) : Int) == 4) = false := by rw [beq_eq_false_iff_ne]; omega
  have e5 : (((cd : Nat) : Int) == 5) = false := by rw [beq_eq_false_iff_ne]; omega
  have e6 : (((cd : Nat) : Int) == 6) = false := by rw [beq_eq_false_iff_ne]; omega
  have e7 : (((cd : Nat) : Int) == 7) = false := by rw [beq_eq_false_iff_ne]; omega
  have e8 : (((cd : Nat) : Int) == 8) = false := by rw [beq_eq_false_iff_ne]; omega
  have e11 : (((cd : Nat) : Int) == 11) = false := by rw [beq_eq_false_iff_ne]; omega
  have e12 : (((cd : Nat) : Int) == 12) = false := by rw [beq_eq_false_iff_ne]; omega
  have e16 : (((cd : Nat) : Int) == 16) = false := by rw [beq_eq_false_iff_ne]; omega
  have e18 : (((cd : Nat) : Int) == 18) = false := by rw [beq_eq_false_iff_ne]; omega
  have e19 : (((cd : Nat) : Int) == 19) = false := by rw [beq_eq_false_iff_ne]; omega
  have e20 : (((cd : Nat) : Int) == 20) = false := by rw [beq_eq_false_iff_ne]; omega
  clear hc
  go_enter Tryz.func66, Tryz.ntmps66
  go_wp2_with fail
  go_ret
  exact ⟨rfl, HG.out⟩
set_option maxRecDepth 100000 in
set_option maxHeartbeats 1000000 in
theorem rf_lit (h : RfIn w lits vs A1 A2 n1 n2 p oa ob) : Rf w sel A1 n1 c1 A2 n2 c2 vars classes p 4 oa ob ((lits[oa.toNat]?).elim false (fun x => !(decide (x.k = 2)))) := by
  have HG := hid (rfW_grew (w := w) (sel := sel) (A1 := A1) (n1 := n1) (c1 := c1) (A2 := A2) (n2 := n2) (c2 := c2) (cd := 4) (oa := oa) (ob := ob))
  unfold Rf
  have h1 := h.hn1
  obtain ⟨k, rfl⟩ : ∃ k : Nat, oa = k := ⟨oa.toNat, by have := h.ha.1; omega⟩
  rw [Int.toNat_natCast]
  by_cases hk : k < n1
  · obtain ⟨ad, x, rfl, hx, q0, q1, _⟩ := lit_at h.l HG.out (i := k) (by omega)
    rw [hx]
    unfold rfW at q0 HG
    rw [show (((4 : Nat) : Nat) : Int) = 4 from rfl] at HG q0 ⊢
    have f1 : (k : Int) < (n1 : Int) := by omega
    show Calls _ _ _ _ (AlPost w (!(decide (x.k = 2))))
    obtain ⟨kk, s⟩ := x
    simp only at q0 ⊢
    clear h hx h1 hk q1
    by_cases h2 : kk = 2
    · subst h2
      rw [show (((2 : Nat) : Nat) : Int) = 2 from rfl] at q0
      go_enter Tryz.func66, Tryz.ntmps66
      go_wp2_with fail
      go_ret
      exact ⟨rfl, HG.out⟩
    · have e2 : (((kk : Nat) : Int) == 2) = false := by rw [beq_eq_false_iff_ne]; omega
      rw [decide_eq_false h2]
      clear h2
      go_enter Tryz.func66, Tryz.ntmps66
      go_wp2_with fail
      go_ret
      refine ⟨?_, HG.out⟩
      simp [bne, e2]
  · rw [List.getElem?_eq_none (by omega)]
    have f1 : ¬ (k : Int) < (n1 : Int) := by omega
    unfold rfW at HG
    rw [show (((4 : Nat) : Nat) : Int) = 4 from rfl] at HG ⊢
    clear h h1 hk
    go_enter Tryz.func66, Tryz.ntmps66
    go_wp2_with fail
    go_ret
    exact ⟨rfl, HG.out⟩
set_option maxRecDepth 100000 in
set_option maxHeartbeats 1000000 in
theorem rf_send11 (h : RfIn w lits vs A1 A2 n1 n2 p oa ob) : Rf w sel A1 n1 c1 A2 n2 c2 vars classes p 11 oa ob (takesB lits oa ob) := by
  have HG := hid (rfW_grew (w := w) (sel := sel) (A1 := A1) (n1 := n1) (c1 := c1) (A2 := A2) (n2 := n2) (c2 := c2) (cd := 11) (oa := oa) (ob := ob))
  unfold Rf
  have h1 := h.hn1
  obtain ⟨k, rfl⟩ : ∃ k : Nat, oa = k := ⟨oa.toNat, by have := h.ha.1; omega⟩
  obtain ⟨m, rfl⟩ : ∃ m : Nat, ob = m := ⟨ob.toNat, by have := h.hb.1; omega⟩
  unfold takesB
  rw [Int.toNat_natCast, Int.toNat_natCast]
  by_cases hk : k < n1
  · obtain ⟨ad, x, rfl, hx, q0, q1, _⟩ := lit_at h.l HG.out (i := k) (by omega)
    rw [hx]
    have hok := h.ok x (List.mem_of_getElem? hx)
    unfold rfW at q0 q1 HG
    rw [show (((11 : Nat) : Nat) : Int) = 11 from rfl] at HG q0 q1 ⊢
    have f1 : (k : Int) < (n1 : Int) := by omega
    show Calls _ _ _ _ (AlPost w (decide (x.k = 2) && decide (Mt.arityS x.s = some m)))
    obtain ⟨kk, s⟩ := x
    simp only at q0 q1 hok ⊢
    clear h hx h1 hk
    by_cases h2 : kk = 2
    · subst h2
      obtain ⟨n, hn⟩ : ∃ n, Mt.arityS s = some n := by
        rcases hok with ⟨h, _⟩ | ⟨h, _⟩ | ⟨_, h⟩
        · cases h
        · cases h
        · exact Option.isSome_iff_exists.1 h
      have HA := hid (fun (W : World) => rarity_c s W)
      rw [show Mt.arity (Lg.bytes s) = some n from hn] at HA
      rw [show (((2 : Nat) : Nat) : Int) = 2 from rfl] at q0
      have hd : (decide (2 = 2) && decide (Mt.arityS s = some m)) = (((n : Nat) : Int) == ((m : Nat) : Int)) := by
        rw [hn, Bool.eq_iff_iff, Bool.and_eq_true, decide_eq_true_iff, decide_eq_true_iff, beq_iff_eq]
        exact ⟨fun h => by rw [Option.some.inj h.2], fun h => ⟨rfl, congrArg some (Int.ofNat.inj h)⟩⟩
      rw [hd]
      clear hn hd hok
      go_enter Tryz.func66, Tryz.ntmps66
      go_wp2_with fail
      refine (HA.out _).mono ?_
      rintro e w1 ⟨r, rfl, hr, rfl⟩
      rw [hr n rfl]
      clear hr
      go_wp2_with fail
      go_ret
      exact ⟨rfl, HG.out⟩
    · have e2 : (((kk : Nat) : Int) == 2) = false := by rw [beq_eq_false_iff_ne]; omega
      have e3 : (((kk : Nat) : Int) != 2) = true := by rw [bne, e2]; rfl
      rw [decide_eq_false h2]
      clear h2 hok e2
      go_enter Tryz.func66, Tryz.ntmps66
      go_wp2_with fail
      go_ret
      exact ⟨rfl, HG.out⟩
  · rw [List.getElem?_eq_none (by omega)]
    have f1 : ¬ (k : Int) < (n1 : Int) := by omega
    unfold rfW at HG
    rw [show (((11 : Nat) : Nat) : Int) = 11 from rfl] at HG ⊢
    clear h h1 hk
    go_enter Tryz.func66, Tryz.ntmps66
    go_wp2_with fail
    go_ret
    exact ⟨rfl, HG.out⟩
set_option maxRecDepth 100000 in
set_option maxHeartbeats 1000000 in
theorem rf_send12 (h : RfIn w lits vs A1 A2 n1 n2 p oa ob) : Rf w sel A1 n1 c1 A2 n2 c2 vars classes p 12 oa ob (takesB lits oa ob) := by
  have HG := hid (rfW_grew (w := w) (sel := sel) (A1 := A1) (n1 := n1) (c1 := c1) (A2 := A2) (n2 := n2) (c2 := c2) (cd := 12) (oa := oa) (ob := ob))
  unfold Rf
  have h1 := h.hn1
  obtain ⟨k, rfl⟩ : ∃ k : Nat, oa = k := ⟨oa.toNat, by have := h.ha.1; omega⟩
  obtain ⟨m, rfl⟩ : ∃ m : Nat, ob = m := ⟨ob.toNat, by have := h.hb.1; omega⟩
  unfold takesB
  rw [Int.toNat_natCast, Int.toNat_natCast]
  by_cases hk : k < n1
  · obtain ⟨ad, x, rfl, hx, q0, q1, _⟩ := lit_at h.l HG.out (i := k) (by omega)
    rw [hx]
    have hok := h.ok x (List.mem_of_getElem? hx)
    unfold rfW at q0 q1 HG
    rw [show (((12 : Nat) : Nat) : Int) = 12 from rfl] at HG q0 q1 ⊢
    have f1 : (k : Int) < (n1 : Int) := by omega
    show Calls _ _ _ _ (AlPost w (decide (x.k = 2) && decide (Mt.arityS x.s = some m)))
    obtain ⟨kk, s⟩ := x
    simp only at q0 q1 hok ⊢
    clear h hx h1 hk
    by_cases h2 : kk = 2
    · subst h2
      obtain ⟨n, hn⟩ : ∃ n, Mt.arityS s = some n := by
        rcases hok with ⟨h, _⟩ | ⟨h, _⟩ | ⟨_, h⟩
        · cases h
        · cases h
        · exact Option.isSome_iff_exists.1 h
      have HA := hid (fun (W : World) => rarity_c s W)
      rw [show Mt.arity (Lg.bytes s) = some n from hn] at HA
      rw [show (((2 : Nat) : Nat) : Int) = 2 from rfl] at q0
      have hd : (decide (2 = 2) && decide (Mt.arityS s = some m)) = (((n : Nat) : Int) == ((m : Nat) : Int)) := by
        rw [hn, Bool.eq_iff_iff, Bool.and_eq_true, decide_eq_true_iff, decide_eq_true_iff, beq_iff_eq]
        exact ⟨fun h => by rw [Option.some.inj h.2], fun h => ⟨rfl, congrArg some (Int.ofNat.inj h)⟩⟩
      rw [hd]
      clear hn hd hok
      go_enter Tryz.func66, Tryz.ntmps66
      go_wp2_with fail
      refine (HA.out _).mono ?_
      rintro e w1 ⟨r, rfl, hr, rfl⟩
      rw [hr n rfl]
      clear hr
      go_wp2_with fail
      go_ret
      exact ⟨rfl, HG.out⟩
    · have e2 : (((kk : Nat) : Int) == 2) = false := by rw [beq_eq_false_iff_ne]; omega
      have e3 : (((kk : Nat) : Int) != 2) = true := by rw [bne, e2]; rfl
      rw [decide_eq_false h2]
      clear h2 hok e2
      go_enter Tryz.func66, Tryz.ntmps66
      go_wp2_with fail
      go_ret
      exact ⟨rfl, HG.out⟩
  · rw [List.getElem?_eq_none (by omega)]
    have f1 : ¬ (k : Int) < (n1 : Int) := by omega
    unfold rfW at HG
    rw [show (((12 : Nat) : Nat) : Int) = 12 from rfl] at HG ⊢
    clear h h1 hk
    go_enter Tryz.func66, Tryz.ntmps66
    go_wp2_with fail
    go_ret
    exact ⟨rfl, HG.out⟩
set_option maxRecDepth 100000 in
set_option maxHeartbeats 1000000 in
theorem rf_temp5 (h : RfIn w lits vs A1 A2 n1 n2 p oa ob) : Rf w sel A1 n1 c1 A2 n2 c2 vars classes p 5 oa ob (if Mt.up (vs.map (·.p)) oa.toNat p < 0 then false else ((vs.map (·.p))[(Mt.up (vs.map (·.p)) oa.toNat p).toNat]?).elim false (fun x => decide (ob < x.temps))) := by
  have HG := hid (rfW_grew (w := w) (sel := sel) (A1 := A1) (n1 := n1) (c1 := c1) (A2 := A2) (n2 := n2) (c2 := c2) (cd := 5) (oa := oa) (ob := ob))
  unfold Rf
  have hpl := into_up (by have := h.hn2; have := h.hp; omega) h.heads oa.toNat p (.inr ⟨by omega, Int.le_refl _⟩)
  obtain ⟨k, rfl⟩ : ∃ k : Nat, oa = k := ⟨oa.toNat, by have := h.ha.1; omega⟩
  have hk := h.ha.2
  rw [Int.toNat_natCast] at hpl ⊢
  obtain ⟨R, hR⟩ : ∃ R, R = Mt.up (vs.map (·.p)) k p := ⟨_, rfl⟩
  rw [← hR] at hpl ⊢
  have HR := hid hR
  have HH := hid h
  have HPl := hid hpl
  obtain ⟨b, hb⟩ : ∃ b, b = if R < 0 then false else ((vs.map (·.p))[R.toNat]?).elim false (fun x => decide (ob < x.temps)) := ⟨_, rfl⟩
  rw [← hb]
  have HB := hid hb
  clear hb hpl hR h
  unfold rfW at HG
  rw [show (((5 : Nat) : Nat) : Int) = 5 from rfl] at HG ⊢
  go_enter Tryz.func66, Tryz.ntmps66
  go_wp2_with fail
  go_loopw [13, 14] (fun s13 s14 wr => ∃ (i : Nat) (q : Int), s13 = .int .i64 q ∧ s14 = .int .i64 ((i : Nat) : Int) ∧ i ≤ k ∧ InTo p q ∧ Hid (R = Mt.up (vs.map (·.p)) (k - i) q) ∧ wr = (w.alloc (.cells #[.string sel, .slice A1 n1 c1, .slice A2 n2 c2] 67)).alloc (.cells #[.int .u8 5, .int .i64 ((k : Nat) : Int), .int .i64 ob] 118)) (fun _ s14 _ => k - (intOf s14).toNat)
  case atStart => exact ⟨0, p, rfl, rfl, Nat.zero_le _, .inr ⟨by omega, Int.le_refl _⟩, by rw [Nat.sub_zero]; exact HR, rfl⟩
  case round =>
    obtain ⟨i, q, rfl, rfl, hi, hq, HU, rfl⟩ := hrel
    by_cases hqn : q = -1
    · subst hqn
      have HB2 := hid (show b = false by
        rw [HB.out, if_pos]
        rw [HU.out, up_none]
        decide)
      by_cases hlt : i < k
      · have f1 : (i : Int) < k := by omega
        clear hq
        go_wp2_with fail
        go_quiet (fail)
        go_wp2_with fail
        go_ret
        exact ⟨congrArg (fun z => Ending.returned (.bool z)) HB2.out.symm, HG.out.trans (Grew.mk ⟨rfl, rfl, rfl, Nat.le_refl _, fun _ _ => rfl⟩)⟩
      · have f1 : ¬ (i : Int) < k := by omega
        clear hq
        go_wp2_with fail
        go_quiet (fail)
        go_wp2_with fail
        go_ret
        exact ⟨congrArg (fun z => Ending.returned (.bool z)) HB2.out.symm, HG.out.trans (Grew.mk ⟨rfl, rfl, rfl, Nat.le_refl _, fun _ _ => rfl⟩)⟩
    · obtain ⟨h1, h2⟩ := hq.resolve_left hqn
      obtain ⟨j, rfl⟩ : ∃ j : Nat, q = j := ⟨q.toNat, by omega⟩
      have f3 : ((j : Nat) : Int) < (n2 : Int) := by have := HH.out.hp; omega
      obtain ⟨ad, v, rfl, hv, q0, _, q2, _, _⟩ := pv_at HH.out.v HG.out (i := j) (by have := HH.out.hp; have := HH.out.hn2; omega)
      by_cases hlt : i < k
      · have f1 : (i : Int) < k := by omega
        have HQ2 := hid (into_outer HH.out.heads (by omega) hv)
        have HU2 : Hid (R = Mt.up (vs.map (·.p)) (k - (i + 1)) v.p.outer) := hid (by
          rw [HU.out, show k - i = (k - (i + 1)) + 1 by omega]
          rw [Mt.up, if_neg (by omega), Int.toNat_natCast, List.getElem?_map, hv]
          rfl)
        clear hv hqn
        go_wp2_with fail
        go_round
        case rel => exact ⟨i + 1, v.p.outer, rfl, by go_num, by omega, HQ2.out, HU2, trivial⟩
        case measure => simp [intOf]; omega
      · have hik : i = k := by omega
        have f1 : ¬ (i : Int) < k := by omega
        have HB2 := hid (show b = decide (ob < v.p.temps) by
          rw [HB.out, HU.out, hik, Nat.sub_self]
          show (if ((j : Nat) : Int) < 0 then false else _) = _
          rw [if_neg (by omega)]
          show ((vs.map (·.p))[((j : Nat) : Int).toNat]?).elim false _ = _
          rw [Int.toNat_natCast, List.getElem?_map, hv]
          rfl)
        generalize v.p.temps = tv at *
        clear hv hqn hik
        go_wp2_with fail
        go_quiet (fail)
        go_wp2_with fail
        go_ret
        exact ⟨congrArg (fun z => Ending.returned (.bool z)) HB2.out.symm, HG.out.trans (Grew.mk ⟨rfl, rfl, rfl, Nat.le_refl _, fun _ _ => rfl⟩)⟩
set_option maxRecDepth 100000 in
set_option maxHeartbeats 1000000 in
theorem rf_temp6 (h : RfIn w lits vs A1 A2 n1 n2 p oa ob) : Rf w sel A1 n1 c1 A2 n2 c2 vars classes p 6 oa ob (if Mt.up (vs.map (·.p)) oa.toNat p < 0 then false else ((vs.map (·.p))[(Mt.up (vs.map (·.p)) oa.toNat p).toNat]?).elim false (fun x => decide (ob < x.temps))) := by
  have HG := hid (rfW_grew (w := w) (sel := sel) (A1 := A1) (n1 := n1) (c1 := c1) (A2 := A2) (n2 := n2) (c2 := c2) (cd := 6) (oa := oa) (ob := ob))
  unfold Rf
  have hpl := into_up (by have := h.hn2; have := h.hp; omega) h.heads oa.toNat p (.inr ⟨by omega, Int.le_refl _⟩)
  obtain ⟨k, rfl⟩ : ∃ k : Nat, oa = k := ⟨oa.toNat, by have := h.ha.1; omega⟩
  have hk := h.ha.2
  rw [Int.toNat_natCast] at hpl ⊢
  obtain ⟨R, hR⟩ : ∃ R, R = Mt.up (vs.map (·.p)) k p := ⟨_, rfl⟩
  rw [← hR] at hpl ⊢
  have HR := hid hR
  have HH := hid h
  have HPl := hid hpl
  obtain ⟨b, hb⟩ : ∃ b, b = if R < 0 then false else ((vs.map (·.p))[R.toNat]?).elim false (fun x => decide (ob < x.temps)) := ⟨_, rfl⟩
  rw [← hb]
  have HB := hid hb
  clear hb hpl hR h
  unfold rfW at HG
  rw [show (((6 : Nat) : Nat) : Int) = 6 from rfl] at HG ⊢
  go_enter Tryz.func66, Tryz.ntmps66
  go_wp2_with fail
  go_loopw [13, 14] (fun s13 s14 wr => ∃ (i : Nat) (q : Int), s13 = .int .i64 q ∧ s14 = .int .i64 ((i : Nat) : Int) ∧ i ≤ k ∧ InTo p q ∧ Hid (R = Mt.up (vs.map (·.p)) (k - i) q) ∧ wr = (w.alloc (.cells #[.string sel, .slice A1 n1 c1, .slice A2 n2 c2] 67)).alloc (.cells #[.int .u8 6, .int .i64 ((k : Nat) : Int), .int .i64 ob] 118)) (fun _ s14 _ => k - (intOf s14).toNat)
  case atStart => exact ⟨0, p, rfl, rfl, Nat.zero_le _, .inr ⟨by omega, Int.le_refl _⟩, by rw [Nat.sub_zero]; exact HR, rfl⟩
  case round =>
    obtain ⟨i, q, rfl, rfl, hi, hq, HU, rfl⟩ := hrel
    by_cases hqn : q = -1
    · subst hqn
      have HB2 := hid (show b = false by
        rw [HB.out, if_pos]
        rw [HU.out, up_none]
        decide)
      by_cases hlt : i < k
      · have f1 : (i : Int) < k := by omega
        clear hq
        go_wp2_with fail
        go_quiet (fail)
        go_wp2_with fail
        go_ret
        exact ⟨congrArg (fun z => Ending.returned (.bool z)) HB2.out.symm, HG.out.trans (Grew.mk ⟨rfl, rfl, rfl, Nat.le_refl _, fun _ _ => rfl⟩)⟩
      · have f1 : ¬ (i : Int) < k := by omega
        clear hq
        go_wp2_with fail
        go_quiet (fail)
        go_wp2_with fail
        go_ret
        exact ⟨congrArg (fun z => Ending.returned (.bool z)) HB2.out.symm, HG.out.trans (Grew.mk ⟨rfl, rfl, rfl, Nat.le_refl _, fun _ _ => rfl⟩)⟩
    · obtain ⟨h1, h2⟩ := hq.resolve_left hqn
      obtain ⟨j, rfl⟩ : ∃ j : Nat, q = j := ⟨q.toNat, by omega⟩
      have f3 : ((j : Nat) : Int) < (n2 : Int) := by have := HH.out.hp; omega
      obtain ⟨ad, v, rfl, hv, q0, _, q2, _, _⟩ := pv_at HH.out.v HG.out (i := j) (by have := HH.out.hp; have := HH.out.hn2; omega)
      by_cases hlt : i < k
      · have f1 : (i : Int) < k := by omega
        have HQ2 := hid (into_outer HH.out.heads (by omega) hv)
        have HU2 : Hid (R = Mt.up (vs.map (·.p)) (k - (i + 1)) v.p.outer) := hid (by
          rw [HU.out, show k - i = (k - (i + 1)) + 1 by omega]
          rw [Mt.up, if_neg (by omega), Int.toNat_natCast, List.getElem?_map, hv]
          rfl)
        clear hv hqn
        go_wp2_with fail
        go_round
        case rel => exact ⟨i + 1, v.p.outer, rfl, by go_num, by omega, HQ2.out, HU2, trivial⟩
        case measure => simp [intOf]; omega
      · have hik : i = k := by omega
        have f1 : ¬ (i : Int) < k := by omega
        have HB2 := hid (show b = decide (ob < v.p.temps) by
          rw [HB.out, HU.out, hik, Nat.sub_self]
          show (if ((j : Nat) : Int) < 0 then false else _) = _
          rw [if_neg (by omega)]
          show ((vs.map (·.p))[((j : Nat) : Int).toNat]?).elim false _ = _
          rw [Int.toNat_natCast, List.getElem?_map, hv]
          rfl)
        generalize v.p.temps = tv at *
        clear hv hqn hik
        go_wp2_with fail
        go_quiet (fail)
        go_wp2_with fail
        go_ret
        exact ⟨congrArg (fun z => Ending.returned (.bool z)) HB2.out.symm, HG.out.trans (Grew.mk ⟨rfl, rfl, rfl, Nat.le_refl _, fun _ _ => rfl⟩)⟩
set_option maxRecDepth 100000 in
set_option maxHeartbeats 1000000 in
theorem rf_block (h : RfIn w lits vs A1 A2 n1 n2 p oa ob) : Rf w sel A1 n1 c1 A2 n2 c2 vars classes p 16 oa ob (((vs.map (·.p))[oa.toNat]?).elim false (fun x => decide (x.outer = ((p : Nat) : Int)))) := by
  have HG := hid (rfW_grew (w := w) (sel := sel) (A1 := A1) (n1 := n1) (c1 := c1) (A2 := A2) (n2 := n2) (c2 := c2) (cd := 16) (oa := oa) (ob := ob))
  unfold Rf
  have h1 := h.hn2
  obtain ⟨k, rfl⟩ : ∃ k : Nat, oa = k := ⟨oa.toNat, by have := h.ha.1; omega⟩
  rw [Int.toNat_natCast, List.getElem?_map]
  by_cases h0 : k = 0
  · subst h0
    obtain ⟨v0, hv0⟩ : ∃ v0, vs[0]? = some v0 := ⟨_, List.getElem?_eq_getElem (by have := h.hp; omega)⟩
    have hout := h.heads 0 v0 (by omega) hv0
    rw [hv0]
    show Calls _ _ _ _ (AlPost w (decide (v0.p.outer = ((p : Nat) : Int))))
    have hm : v0.p.outer = -1 := by
      simp only [Mt.headOk, Bool.and_eq_true] at hout
      have h2 := hout.1.1
      unfold Mt.outerOk at h2
      rw [if_pos rfl] at h2
      exact decide_eq_true_iff.1 h2
    rw [hm, decide_eq_false (by omega)]
    unfold rfW at HG
    rw [show (((16 : Nat) : Nat) : Int) = 16 from rfl] at HG ⊢
    clear h h1 hv0 hout hm
    go_enter Tryz.func66, Tryz.ntmps66
    go_wp2_with fail
    go_ret
    exact ⟨rfl, HG.out⟩
  · have f0 : (0 : Int) < (k : Int) := by omega
    by_cases hk : k < n2
    · obtain ⟨ad, v, rfl, hv, q0, _, _, _, _⟩ := pv_at h.v HG.out (i := k) (by omega)
      rw [hv]
      show Calls _ _ _ _ (AlPost w (decide (v.p.outer = ((p : Nat) : Int))))
      generalize v.p.outer = ou at *
      unfold rfW at q0 HG
      rw [show (((16 : Nat) : Nat) : Int) = 16 from rfl] at HG q0 ⊢
      have f1 : (k : Int) < (n2 : Int) := by omega
      have hd : decide (ou = ((p : Nat) : Int)) = (ou == ((p : Nat) : Int)) := by rw [Bool.eq_iff_iff, decide_eq_true_iff, beq_iff_eq]
      rw [hd]
      clear h hv h1 hk hd h0
      go_enter Tryz.func66, Tryz.ntmps66
      go_wp2_with fail
      go_ret
      exact ⟨rfl, HG.out⟩
    · rw [List.getElem?_eq_none (by omega)]
      have f1 : ¬ (k : Int) < (n2 : Int) := by omega
      unfold rfW at HG
      rw [show (((16 : Nat) : Nat) : Int) = 16 from rfl] at HG ⊢
      clear h h1 hk h0
      go_enter Tryz.func66, Tryz.ntmps66
      go_wp2_with fail
      go_ret
      exact ⟨rfl, HG.out⟩
/-- All codes. -/
theorem rfits_c (h : RfIn w lits vs A1 A2 n1 n2 p oa ob) (cd : Nat) : Rf w sel A1 n1 c1 A2 n2 c2 vars classes p cd oa ob (Mt.fits ⟨sel, lits, vs.map (·.p)⟩ p ⟨cd, oa, ob⟩ vars classes) := by
  by_cases hc : cd ≠ 4 ∧ cd ≠ 5 ∧ cd ≠ 6 ∧ cd ≠ 7 ∧ cd ≠ 8 ∧ cd ≠ 11 ∧ cd ≠ 12 ∧ cd ≠ 16 ∧ cd ≠ 18 ∧ cd ≠ 19 ∧ cd ≠ 20
  · have : Mt.fits ⟨sel, lits, vs.map (·.p)⟩ p ⟨cd, oa, ob⟩ vars classes = true := by
      unfold Mt.fits
      simp only
      rw [if_neg (by omega), if_neg (by omega), if_neg (by omega), if_neg (by omega), if_neg (by omega), if_neg (by omega), if_neg (by omega), if_neg (by omega)]
    rw [this]
    exact rf_other h hc
  · rcases (by omega : cd = 4 ∨ cd = 5 ∨ cd = 6 ∨ cd = 7 ∨ cd = 8 ∨ cd = 11 ∨ cd = 12 ∨ cd = 16 ∨ cd = 18 ∨ cd = 19 ∨ cd = 20) with rfl | rfl | rfl | rfl | rfl | rfl | rfl | rfl | rfl | rfl | rfl
    · exact rf_lit h
    · exact rf_temp5 h
    · exact rf_temp6 h
    · exact rf_var7 h
    · exact rf_var8 h
    · exact rf_send11 h
    · exact rf_send12 h
    · exact rf_block h
    · exact rf_me h
    · exact rf_home h
    · exact rf_class h
end
end Go.Proofs.YtjladeiecokpfaaGreatDoor
end

section
/- Parts of elder texts that this layer needs, joined: XMuD XMuE. -/
namespace Go.Proofs.YtjladeiecokpfaaGreatDoor
open Go.RowKit

set_option maxRecDepth 100000 in
set_option maxHeartbeats 1000000 in
theorem rlit_c (x : Mt.Lit) (b : Bool) (hb : b = true ↔ Mt.LitOk x) (w : World) (hx : x.s.size ≤ 2000) :
    Calls Tryz.prog 63 #[.agg #[.int .u8 ((x.k : Nat) : Int), .string x.s]] w fun e w' => e = .returned (.bool b) ∧ Grew w w' := by
  obtain ⟨k, s⟩ := x
  simp only at hb hx ⊢
  have HG := hid ((Grew.refl w).alloc (.cells #[.int .u8 ((k : Nat) : Int), .string s] 96))
  by_cases h0 : k = 0
  · subst h0
    have HB : Hid (b = true ↔ Mt.Numeral s) := hid (by
      rw [hb]
      constructor
      · rintro (⟨_, h⟩ | ⟨h, _⟩ | ⟨h, _⟩)
        · exact h
        · cases h
        · cases h
      · exact fun h => .inl ⟨rfl, h⟩)
    have HP := hid (rparse_c s (w.alloc (.cells #[.int .u8 0, .string s] 96)) (by omega))
    rw [show (((0 : Nat) : Nat) : Int) = 0 from rfl] at HG ⊢
    clear hb hx
    go_enter Tryz.func63, Tryz.ntmps63
    go_wp2_with fail
    refine HP.out.mono ?_
    rintro e w1 ⟨A', c', ng, L, j, rfl, _, hpo, hg⟩
    have HG1 := hid (HG.out.trans hg)
    by_cases hj : j = 0
    · subst hj
      have hbt : b = true := HB.out.2 ⟨ng, L, hpo⟩
      subst hbt
      clear hpo hg
      go_wp2_with fail
      go_ret
      exact ⟨rfl, HG1.out.alloc _⟩
    · have hbf : b = false := by
        cases b
        · rfl
        · obtain ⟨ng', L', h'⟩ := HB.out.1 rfl
          exact absurd (hpo.inj h').2.2 hj
      subst hbf
      have e0 : (((j : Nat) : Int) == 0) = false := by rw [beq_eq_false_iff_ne]; omega
      clear hpo hg
      go_wp2_with fail
      go_ret
      exact ⟨rfl, HG1.out.alloc _⟩
  · have e0 : (((k : Nat) : Int) == 0) = false := by rw [beq_eq_false_iff_ne]; omega
    by_cases h1 : k = 1
    · subst h1
      have hb2 : b = decide (s.size ≤ 1024) := by
        rw [Bool.eq_iff_iff, hb, decide_eq_true_iff]
        refine ⟨fun h => ?_, fun h => .inr (.inl ⟨rfl, h⟩)⟩
        rcases h with ⟨h, _⟩ | ⟨_, h⟩ | ⟨h, _⟩
        · cases h
        · exact h
        · cases h
      rw [show (((1 : Nat) : Nat) : Int) = 1 from rfl] at HG ⊢
      clear hb hx e0 h0
      by_cases hs : s.size ≤ 1024
      · rw [decide_eq_true hs] at hb2
        subst hb2
        have f1 : (s.size : Int) ≤ 1024 := by omega
        go_enter Tryz.func63, Tryz.ntmps63
        go_wp2_with fail
        go_ret
        exact ⟨rfl, HG.out⟩
      · rw [decide_eq_false hs] at hb2
        subst hb2
        have f1 : ¬ (s.size : Int) ≤ 1024 := by omega
        go_enter Tryz.func63, Tryz.ntmps63
        go_wp2_with fail
        go_ret
        exact ⟨rfl, HG.out⟩
    · have e1 : (((k : Nat) : Int) == 1) = false := by rw [beq_eq_false_iff_ne]; omega
      by_cases h2 : k = 2
      · subst h2
        have hb2 : b = (Mt.arity (Lg.bytes s)).isSome := by
          rw [Bool.eq_iff_iff, hb]
          refine ⟨fun h => ?_, fun h => .inr (.inr ⟨rfl, h⟩)⟩
          rcases h with ⟨h, _⟩ | ⟨h, _⟩ | ⟨_, h⟩
          · cases h
          · cases h
          · exact h
        have HA := hid (fun (W : World) => rarity_c s W)
        rw [show (((2 : Nat) : Nat) : Int) = 2 from rfl] at HG ⊢
        generalize Mt.arity (Lg.bytes s) = r at *
        clear hb hx e0 h0 e1 h1
        subst hb2
        go_enter Tryz.func63, Tryz.ntmps63
        go_wp2_with fail
        refine (HA.out _).mono ?_
        rintro e w1 ⟨k, rfl, _, rfl⟩
        go_wp2_with fail
        go_ret
        exact ⟨rfl, HG.out⟩
      · have e2 : (((k : Nat) : Int) == 2) = false := by rw [beq_eq_false_iff_ne]; omega
        have hbf : b = false := by
          cases b
          · rfl
          · rcases hb.1 rfl with ⟨h, _⟩ | ⟨h, _⟩ | ⟨h, _⟩
            · exact absurd h h0
            · exact absurd h h1
            · exact absurd h h2
        subst hbf
        clear hb hx h0 h1 h2
        go_enter Tryz.func63, Tryz.ntmps63
        go_wp2_with fail
        go_ret
        exact ⟨rfl, HG.out⟩
/-- The first literals are valid. -/
def LitsTo (l : List Mt.Lit) (i : Nat) : Prop := ∀ j x, j < i → l[j]? = some x → Mt.LitOk x
/-- The first instructions fit. -/
def FitsTo (m : Mt.Meth) (p : Nat) (l : List Op7.Ins) (vars classes : Int) (i : Nat) : Prop := ∀ j o, j < i → l[j]? = some o → Mt.fits m p o vars classes = true
theorem fits_all {m : Mt.Meth} {p : Nat} {l : List Op7.Ins} {vars classes : Int} (h : FitsTo m p l vars classes l.length) : l.all (fun o => Mt.fits m p o vars classes) = true := by
  rw [List.all_eq_true]
  intro o ho
  obtain ⟨j, hj, rfl⟩ := List.mem_iff_getElem.1 ho
  exact h j _ hj (List.getElem?_eq_getElem hj)
theorem may_of {v : MV} {vars classes : Int} {n : Nat} {v0 : PV} (h1 : Mt.arity (Lg.bytes v.sel) = some n) (h2 : v.lits.length ≤ 64) (h3 : LitsTo v.lits v.lits.length) (h4 : 1 ≤ v.vs.length ∧ v.vs.length ≤ 64) (h5 : HeadsTo v.vs v.vs.length) (h6 : v.vs[0]? = some v0) (h7 : v0.p.args = ((n : Nat) : Int)) (h8 : CodesTo v.m v.vs v.vs.length vars classes) : Mt.May v.m vars classes := by
  refine ⟨?_, h2, ?_, ⟨?_, ?_, heads_all h5⟩, ?_, ?_⟩
  · show (Mt.arity (Lg.bytes v.sel)).isSome = true
    rw [h1]; rfl
  · intro x hx
    obtain ⟨j, hj, rfl⟩ := List.mem_iff_getElem.1 (show x ∈ v.lits from hx)
    exact h3 j _ hj (List.getElem?_eq_getElem hj)
  · show 1 ≤ (v.vs.map (·.p)).length
    rw [List.length_map]; exact h4.1
  · show (v.vs.map (·.p)).length ≤ 64
    rw [List.length_map]; exact h4.2
  · show ((v.vs.map (·.p))[0]?).map (·.args) = (Mt.arity (Lg.bytes v.sel)).map (fun n => (n : Int))
    rw [h1, List.getElem?_map, h6]
    exact congrArg some h7
  · intro i p hp
    have hp' : (v.vs.map (·.p))[i]? = some p := hp
    rw [List.getElem?_map] at hp'
    obtain ⟨x, hx, rfl⟩ := Option.map_eq_some_iff.1 hp'
    exact h8 i x (List.getElem?_eq_some_iff.1 hx).1 hx
theorem may_head {v : MV} {vars classes : Int} (h : Mt.May v.m vars classes) {i : Nat} {x : PV} (hx : v.vs[i]? = some x) : Mt.headOk x.p i = true :=
  h.parts.2.2 i x.p (by show (v.vs.map (·.p))[i]? = some x.p; rw [List.getElem?_map, hx]; rfl)
theorem may_code {v : MV} {vars classes : Int} (h : Mt.May v.m vars classes) {i : Nat} {x : PV} (hx : v.vs[i]? = some x) : Mt.CodeOk v.m i x.p.code vars classes :=
  h.code i x.p (by show (v.vs.map (·.p))[i]? = some x.p; rw [List.getElem?_map, hx]; rfl)
theorem may_args {v : MV} {vars classes : Int} {n : Nat} (h : Mt.May v.m vars classes) (h1 : Mt.arity (Lg.bytes v.sel) = some n) {x : PV} (hx : v.vs[0]? = some x) : x.p.args = ((n : Nat) : Int) := by
  have h2 : ((v.vs.map (·.p))[0]?).map (·.args) = (Mt.arity (Lg.bytes v.sel)).map (fun n => (n : Int)) := h.args
  rw [h1, List.getElem?_map, hx] at h2
  exact Option.some.inj h2
end Go.Proofs.YtjladeiecokpfaaGreatDoor
namespace Go.Proofs.YtjladeiecokpfaaGreatDoor
open Go.RowKit

/-- The three cells of a method's box. -/
theorem mvc {w w' : World} {s : ByteArray} {A1 A2 : Option Addr} {n1 n2 c1 c2 g : Nat} {t : TypeId} (h : Blk w g t #[.string s, .slice A1 n1 c1, .slice A2 n2 c2]) (hg : Grew w w') : w'.cell? ⟨g, 0, none⟩ = some (.string s) ∧ w'.cell? ⟨g, 1, none⟩ = some (.slice A1 n1 c1) ∧ w'.cell? ⟨g, 2, none⟩ = some (.slice A2 n2 c2) :=
  ⟨(h.grew hg).cell 0, (h.grew hg).cell 1, (h.grew hg).cell 2⟩
set_option maxRecDepth 100000 in
set_option maxHeartbeats 8000000 in
theorem rmay_c (v : MV) (vars classes : Int) (b : Bool) (hb : b = true ↔ Mt.May v.m vars classes) (w : World) (h : MethAt w v) :
    Calls Tryz.prog 46 #[.agg (mvCells v), .int .i64 vars, .int .i64 classes] w fun e w' => e = .returned (.bool b) ∧ Grew w w' := by
  have HA := hid (rarity_c v.sel (w.alloc (.cells (mvCells v) 67)))
  have HG1 := hid ((Grew.refl w).alloc (.cells (mvCells v) 67))
  have HBk := hid (Blk.new w 67 (mvCells v))
  have HML := hid (h.lits.grew HG1.out)
  have HMP := hid (h.parts.grew HG1.out)
  have HNo : Hid (¬ Mt.May v.m vars classes → b = false) := hid (fun hn => by
    cases hbb : b
    · rfl
    · exact absurd (hb.1 hbb) hn)
  have HYes := hid hb.2
  have HSel : Hid (Mt.May v.m vars classes → (Mt.arity (Lg.bytes v.sel)).isSome = true) := hid (fun hm => hm.sel)
  have HFew : Hid (Mt.May v.m vars classes → v.lits.length ≤ 64 ∧ 1 ≤ v.vs.length ∧ v.vs.length ≤ 64) := hid (fun hm => ⟨hm.few, by
    have h1 : 1 ≤ (v.vs.map (·.p)).length := hm.parts.1
    have h2 : (v.vs.map (·.p)).length ≤ 64 := hm.parts.2.1
    rw [List.length_map] at h1 h2
    exact ⟨h1, h2⟩⟩)
  have HLit : Hid (Mt.May v.m vars classes → ∀ x ∈ v.lits, Mt.LitOk x) := hid (fun hm => hm.lits)
  have HHead : Hid (Mt.May v.m vars classes → ∀ i x, v.vs[i]? = some x → Mt.headOk x.p i = true) := hid (fun hm i x hx => may_head hm hx)
  have HCode : Hid (Mt.May v.m vars classes → ∀ i x, v.vs[i]? = some x → Mt.CodeOk v.m i x.p.code vars classes) := hid (fun hm i x hx => may_code hm hx)
  have HArgs : Hid (∀ n, Mt.arity (Lg.bytes v.sel) = some n → Mt.May v.m vars classes → ∀ x, v.vs[0]? = some x → x.p.args = ((n : Nat) : Int)) := hid (fun n hn hm x hx => may_args hm hn hx)
  have HOf : Hid (∀ n v0, Mt.arity (Lg.bytes v.sel) = some n → v.lits.length ≤ 64 → LitsTo v.lits v.lits.length → 1 ≤ v.vs.length ∧ v.vs.length ≤ 64 → HeadsTo v.vs v.vs.length → v.vs[0]? = some v0 → v0.p.args = ((n : Nat) : Int) → CodesTo v.m v.vs v.vs.length vars classes → Mt.May v.m vars classes) := hid (fun n v0 h1 h2 h3 h4 h5 h6 h7 h8 => may_of h1 h2 h3 h4 h5 h6 h7 h8)
  have HMe0 : Hid (v.m = ⟨v.sel, v.lits, v.vs.map (·.p)⟩) := hid rfl
  have hl1 := h.l1
  have hl2 := h.l2
  clear h hb
  obtain ⟨M, hMM⟩ : ∃ M, M = v.m := ⟨_, rfl⟩
  rw [← hMM] at HNo HYes HSel HFew HLit HHead HCode HArgs HOf HMe0
  clear hMM
  obtain ⟨s, l, A1, c1, vs, A2, c2⟩ := v
  unfold mvCells at *
  simp only at HA HG1 HBk HML HMP HNo HYes HSel HFew HLit HHead HCode HArgs HOf HMe0 hl1 hl2 ⊢
  obtain ⟨n1, en1⟩ : ∃ n1, n1 = l.length := ⟨_, rfl⟩
  obtain ⟨n2, en2⟩ : ∃ n2, n2 = vs.length := ⟨_, rfl⟩
  have HN1 := hid en1
  have HN2 := hid en2
  rw [← en1] at HA HG1 HBk HML HMP HFew HOf hl1 ⊢
  rw [← en2] at HA HG1 HBk HML HMP HFew HOf hl2 ⊢
  have HMe := hid HMe0.out
  clear en1 en2 HMe0
  generalize hW : w.alloc (.cells #[.string s, .slice A1 n1 c1, .slice A2 n2 c2] 67) = W at HA HG1 HBk HML HMP
  generalize hr : Mt.arity (Lg.bytes s) = r at HA HSel HArgs HOf
  cases r with
  | none =>
    have HF := hid (HNo.out (fun hm => by have := HSel.out hm; cases this))
    clear hr HArgs HOf HHead HCode
    subst hW
    go_enter Tryz.func46, Tryz.ntmps46
    go_wp2_with fail
    refine HA.out.mono ?_
    rintro e w1 ⟨kk, rfl, _, rfl⟩
    go_wp2_with fail
    go_ret
    exact ⟨congrArg (fun z => Ending.returned (.bool z)) HF.out.symm, HG1.out⟩
  | some na =>
    replace HArgs := hid (HArgs.out na rfl)
    replace HOf := hid (fun v0 => HOf.out na v0 rfl)
    clear hr HSel
    by_cases h64 : n1 ≤ 64
    · have f1 : ¬ (64 : Int) < (n1 : Int) := by omega
      by_cases hp1 : 1 ≤ n2
      · have f2 : ¬ (n2 : Int) < 1 := by omega
        by_cases hp2 : n2 ≤ 64
        · have f3 : ¬ (64 : Int) < (n2 : Int) := by omega
          have f0 : (0 : Int) < (n2 : Int) := by omega
          have HR := hid (⟨h64, hp1, hp2⟩ : n1 ≤ 64 ∧ 1 ≤ n2 ∧ n2 ≤ 64)
          obtain ⟨ad, v0, rfl, hv0, _, q1, _, _, _⟩ := pv_at HMP.out (Grew.refl W) (i := 0) (show 0 < vs.length by rw [← HN2.out]; omega)
          rw [Nat.zero_mul, add_zero] at q1
          have HV0 := hid hv0
          clear hv0
          obtain ⟨z0, z1, z2⟩ := mvc HBk.out (Grew.refl W)
          by_cases har : v0.p.args = ((na : Nat) : Int)
          · have HAr := hid har
            have HBt := hid (fun h3 h5 h8 => HYes.out (HOf.out v0 HR.out.1 h3 HR.out.2 h5 HV0.out HAr.out h8))
            rw [har] at q1
            clear har HOf HYes HArgs HFew
            subst hW
            go_enter Tryz.func46, Tryz.ntmps46
            go_wp2_with fail
            refine HA.out.mono ?_
            rintro e w1 ⟨kk, rfl, hkk, rfl⟩
            rw [hkk na rfl]
            clear hkk
            generalize w.alloc (.cells #[.string s, .slice A1 n1 c1, .slice (some ad) n2 c2] 67) = W at *
            go_wp2_with fail
            clear q1 z0 z1 z2
            go_loopw [9] (fun s9 wr => ∃ i : Nat, s9 = .int .i64 ((i : Nat) : Int) ∧ i ≤ n1 ∧ Grew W wr ∧ Hid (LitsTo l i)) (fun s9 _ => n1 - (intOf s9).toNat)
            case atStart => exact ⟨0, rfl, Nat.zero_le _, Grew.refl _, hid (fun j x hj => by omega)⟩
            case round =>
              obtain ⟨i, rfl, hi, hg, HI⟩ := hrel
              have HG := hid hg
              obtain ⟨z0, z1, z2⟩ := mvc HBk.out hg
              clear hg
              by_cases hlt : i < n1
              · have f4 : (i : Int) < n1 := by omega
                obtain ⟨ad1, x, rfl, hx, q0, q1, _⟩ := lit_at HML.out HG.out (i := i) (by rw [← HN1.out]; exact hlt)
                have hxm := List.mem_of_getElem? hx
                have HL := hid (rlit_c x (litB x) (litB_iff x) wr (HML.out.1 x hxm).2)
                have HX : Hid (litB x = false → b = false) := hid (fun hf => HNo.out (fun hm => by
                  have := (litB_iff x).2 (HLit.out hm x hxm)
                  rw [hf] at this
                  cases this))
                have HS : Hid (litB x = true → LitsTo l (i + 1)) := hid (fun hf j y hj hy => by
                  rcases Nat.lt_or_ge j i with h1 | h1
                  · exact HI.out j y h1 hy
                  · obtain rfl : j = i := by omega
                    rw [hx] at hy
                    obtain rfl := Option.some.inj hy
                    exact (litB_iff x).1 hf)
                generalize litB x = q at *
                clear hx hxm
                obtain ⟨k, xs⟩ := x
                simp only at q0 q1 HL
                cases q
                · have HF := hid (HX.out rfl)
                  go_wp2_with fail
                  refine HL.out.mono ?_
                  rintro e w2 ⟨rfl, hg2⟩
                  go_wp2_with fail
                  go_ret
                  exact ⟨congrArg (fun z => Ending.returned (.bool z)) HF.out.symm, HG1.out.trans (HG.out.trans hg2)⟩
                · replace HS := hid (HS.out rfl)
                  go_wp2_with fail
                  refine HL.out.mono ?_
                  rintro e w2 ⟨rfl, hg2⟩
                  go_wp2_with fail
                  go_round
                  case rel => exact ⟨i + 1, by go_num, by omega, HG.out.trans hg2, HS⟩
                  case measure => simp [intOf]; omega
              · obtain rfl : n1 = i := by omega
                have HLa := hid (show LitsTo l l.length by have := HI.out; rwa [HN1.out] at this)
                have HLits : Hid (∀ x ∈ l, Mt.LitOk x) := hid (fun x hx => by
                  obtain ⟨j, hj, rfl⟩ := List.mem_iff_getElem.1 hx
                  exact HLa.out j _ hj (List.getElem?_eq_getElem hj))
                replace HBt := hid (HBt.out (by have := HLa.out; rwa [← HN1.out] at this))
                have HGa := hid HG.out
                clear HI hlt HLit HLa
                go_wp2_with fail
                clear z0 z1 z2 HG
                go_loopw [10, 11, 12, 13, 14, 15, 16, 17] (fun s10 _ _ _ _ _ _ _ wr => ∃ i : Nat, s10 = .int .i64 ((i : Nat) : Int) ∧ i ≤ n2 ∧ Grew W wr ∧ Hid (HeadsTo vs i ∧ CodesTo M vs i vars classes)) (fun s10 _ _ _ _ _ _ _ _ => n2 - (intOf s10).toNat)
                case atStart => exact ⟨0, rfl, Nat.zero_le _, HGa.out, hid ⟨fun j x hj => by omega, fun j x hj => by omega⟩⟩
                case round =>
                  clear HGa
                  obtain ⟨i, rfl, hi, hg, HI⟩ := hrel
                  have HG := hid hg
                  obtain ⟨z0, z1, z2⟩ := mvc HBk.out hg
                  clear hg
                  by_cases hlt : i < n2
                  · have f4 : (i : Int) < n2 := by omega
                    obtain ⟨ad', x, he, hx, q0, q1, q2, q3, _⟩ := pv_at HMP.out HG.out (i := i) (by rw [← HN2.out]; exact hlt)
                    obtain rfl := Option.some.inj he
                    have HPo := hid ((HMP.out.1 x (List.mem_of_getElem? hx)).grew HG.out)
                    have HMc := hid (fun hm => HCode.out hm i x hx)
                    have HMh := hid (fun hm => HHead.out hm i x hx)
                    have HH := hid HI.out.1
                    have HC := hid HI.out.2
                    have HVi := hid hx
                    clear HI hx he
                    obtain ⟨⟨po, pa, pt, code⟩, Ac, cc⟩ := x
                    unfold PvOk at HPo
                    simp only at q0 q1 q2 q3 HPo HMc HMh
                    rcases Nat.eq_zero_or_pos i with hi0 | hi0
                    · subst hi0
                      rw [Nat.zero_mul, add_zero] at q0 q1 q2 q3
                      by_cases ho : po = -1
                      · subst ho
                        by_cases g1 : pa < 0
                        · have HF := hid (HNo.out (fun hm => by
                            have := HMh.out hm
                            rw [show Mt.headOk ⟨(-1), pa, pt, code⟩ 0 = false by simp only [Mt.headOk, Mt.outerOk]; simp; omega] at this
                            cases this))
                          clear HMc HMh
                          go_wp2_with fail
                          go_ret
                          exact ⟨congrArg (fun z => Ending.returned (.bool z)) HF.out.symm, HG1.out.trans (HG.out.alloc _)⟩
                        · by_cases g2 : 8 < pa
                          · have HF := hid (HNo.out (fun hm => by
                              have := HMh.out hm
                              rw [show Mt.headOk ⟨(-1), pa, pt, code⟩ 0 = false by simp only [Mt.headOk, Mt.outerOk]; simp; omega] at this
                              cases this))
                            clear HMc HMh
                            go_wp2_with fail
                            go_ret
                            exact ⟨congrArg (fun z => Ending.returned (.bool z)) HF.out.symm, HG1.out.trans (HG.out.alloc _)⟩
                          · by_cases g3 : pt < pa
                            · have HF := hid (HNo.out (fun hm => by
                                have := HMh.out hm
                                rw [show Mt.headOk ⟨(-1), pa, pt, code⟩ 0 = false by simp only [Mt.headOk, Mt.outerOk]; simp; omega] at this
                                cases this))
                              clear HMc HMh
                              go_wp2_with fail
                              go_ret
                              exact ⟨congrArg (fun z => Ending.returned (.bool z)) HF.out.symm, HG1.out.trans (HG.out.alloc _)⟩
                            · by_cases g4 : 16 < pt
                              · have HF := hid (HNo.out (fun hm => by
                                  have := HMh.out hm
                                  rw [show Mt.headOk ⟨(-1), pa, pt, code⟩ 0 = false by simp only [Mt.headOk, Mt.outerOk]; simp; omega] at this
                                  cases this))
                                clear HMc HMh
                                go_wp2_with fail
                                go_ret
                                exact ⟨congrArg (fun z => Ending.returned (.bool z)) HF.out.symm, HG1.out.trans (HG.out.alloc _)⟩
                              · have HHd : Hid (HeadsTo vs (0 + 1)) := hid (fun j y hj hy => by
                                  rcases Nat.lt_or_ge j 0 with h1 | h1
                                  · exact HH.out j y h1 hy
                                  · obtain rfl : j = 0 := by omega
                                    rw [HVi.out] at hy
                                    obtain rfl := Option.some.inj hy
                                    simp only [Mt.headOk, Mt.outerOk]
                                    simp
                                    omega)
                                clear HMh
                                have hcap := HPo.out.2.1
                                have hfew := HPo.out.2.2.2
                                have HDp := hid (fun (W2 : World) (hg : Grew wr W2) => rdepths_c Ac cc code W2 (HPo.out.1.grew hg) hcap (by omega))
                                have HDc := hid (fun (W2 : World) (hg : Grew wr W2) => rdecode_c Ac cc code W2 (HPo.out.1.grew hg) hcap (by omega))
                                have HBx := hid (Blk.new wr 97 #[.int .i64 (-1), .int .i64 pa, .int .i64 pt, .slice Ac code.length cc])
                                have HGx := hid ((Grew.refl wr).alloc (.cells #[.int .i64 (-1), .int .i64 pa, .int .i64 pt, .slice Ac code.length cc] 97))
                                have HBn : Hid (∀ k, Fl.Bad code k → b = false) := hid (fun k hk => HNo.out (fun hm => by
                                  obtain ⟨l', os', G', D', h1, _⟩ := HMc.out hm
                                  exact hk.not_well h1))
                                have HWl : Hid (∀ L os G D, Fl.Well code L os G D → L.all (fun o => Mt.fits M 0 o vars classes) = true → CodesTo M vs (0 + 1) vars classes) := hid (fun L os G D hw hf j y hj hy => by
                                  rcases Nat.lt_or_ge j 0 with h1 | h1
                                  · exact HC.out j y h1 hy
                                  · obtain rfl : j = 0 := by omega
                                    rw [HVi.out] at hy
                                    obtain rfl := Option.some.inj hy
                                    exact ⟨L, os, G, D, hw, hf⟩)
                                have HWn : Hid (∀ L os G D, Fl.Well code L os G D → ∀ o ∈ L, Mt.fits M 0 o vars classes = false → b = false) := hid (fun L os G D hw o ho hf => HNo.out (fun hm => by
                                  obtain ⟨l', os', G', D', h1, h2⟩ := HMc.out hm
                                  obtain ⟨rfl, _⟩ := hw.uniq h1
                                  have := List.all_eq_true.1 h2 o ho
                                  rw [hf] at this
                                  cases this))
                                have HVl : Hid (∀ L os G D, Fl.Well code L os G D → (∀ o ∈ L, Op7.valid o) ∧ L.length ≤ 512 ∧ Op7.decR code = (L, os, 0)) := hid (fun L os G D hw => ⟨(decR_ok HPo.out.1.1 hw.dec).2.1, (hw.few HPo.out.1.1).2, hw.dec⟩)
                                clear hcap hfew
                                generalize code.length = cl at *
                                go_wp2_with fail
                                refine (HDp.out _ HGx.out).mono ?_
                                clear q0 q1 q2 q3
                                rintro e w3 (⟨k, rfl, hbad, hg3⟩ | ⟨A3, m3, c3, L, os, GG, DD, rfl, hwell, hg3⟩)
                                · have HF := hid (HBn.out k hbad)
                                  have e0 : (((k : Nat) : Int) != 0) = true := by rw [bne, beq_eq_false_iff_ne.2 (by have := hbad.ne; omega)]; rfl
                                  have HG3 := hid (HG.out.trans (HGx.out.trans hg3))
                                  clear hbad hg3
                                  go_wp2_with fail
                                  go_ret
                                  exact ⟨congrArg (fun z => Ending.returned (.bool z)) HF.out.symm, HG1.out.trans HG3.out⟩
                                · have HG3 := hid (HGx.out.trans hg3)
                                  have d3 := (HBx.out.grew hg3).cell 3
                                  simp only [List.getElem?_toArray, List.getElem?_cons_zero, List.getElem?_cons_succ] at d3
                                  obtain ⟨hval, hlen, hdec⟩ := HVl.out L os GG DD hwell
                                  have HDe := hid (HDc.out w3 HG3.out)
                                  rw [hdec] at HDe
                                  have HVal := hid hval
                                  have HWell := hid hwell
                                  clear hval hdec hwell hg3
                                  go_wp2_with fail
                                  refine HDe.out.mono ?_
                                  rintro e w4 ⟨B1, d1, B2, d2, L', rfl, hL, hI, _, hg4⟩
                                  simp only at hL
                                  subst hL
                                  have HOp := hid (RowI.ops hI)
                                  have HG4 := hid (HG.out.trans (HG3.out.trans hg4))
                                  obtain ⟨ln, hln⟩ : ∃ ln, ln = L'.length := ⟨_, rfl⟩
                                  rw [← hln] at hlen ⊢
                                  have HLn := hid hln
                                  clear hln hI hg4 d3 HDp HDc HDe HBx HGx HBn HVl
                                  go_wp2_with fail
                                  go_loopw [17] (fun s17 wr => ∃ k : Nat, s17 = .int .i64 ((k : Nat) : Int) ∧ k ≤ ln ∧ Grew w4 wr ∧ Hid (FitsTo M 0 L' vars classes k)) (fun s17 _ => ln - (intOf s17).toNat)
                                  case atStart => exact ⟨0, rfl, Nat.zero_le _, Grew.refl _, hid (fun j x hj => by omega)⟩
                                  case round =>
                                    obtain ⟨k, rfl, hk, hgx, HK⟩ := hrel
                                    have HGy := hid hgx
                                    clear hgx
                                    by_cases hkl : k < ln
                                    · have f9 : (k : Int) < ln := by omega
                                      obtain ⟨ad2, rfl, hb2, hc2⟩ := HOp.out.2 (by rw [← HLn.out]; omega)
                                      obtain ⟨o, ho⟩ : ∃ o, L'[k]? = some o := ⟨_, List.getElem?_eq_getElem (show k < L'.length by rw [← HLn.out]; exact hkl)⟩
                                      obtain ⟨y0, y1, y2⟩ := op_cell (o := o) (i := k) (ad := ad2) (w := wr) (fun j u hu => by
                                        rw [HGy.out.below.cell (by rw [block_add]; exact hb2)]; exact hc2 k o ho j u hu)
                                      have hom := List.mem_of_getElem? ho
                                      have hof := valid_fit (HVal.out o hom)
                                      have hoa : 0 ≤ o.a ∧ o.a ≤ 1000000 := by
                                        obtain ⟨_, ⟨a0, a1⟩, _⟩ := HVal.out o hom
                                        have hw := Op7.wid_le o.code
                                        have e1 : ((256 : Int) ^ (Op7.wid o.code).1) ≤ 256 ^ 2 := by
                                          rcases (by omega : (Op7.wid o.code).1 = 0 ∨ (Op7.wid o.code).1 = 1 ∨ (Op7.wid o.code).1 = 2) with e | e | e <;> rw [e] <;> decide
                                        exact ⟨a0, by omega⟩
                                      have hob : 0 ≤ o.b ∧ o.b ≤ 1000000 := ⟨hof.2.1, by omega⟩
                                      have HGz := hid (HG4.out.trans HGy.out)
                                      obtain ⟨z0, z1, z2⟩ := mvc HBk.out HGz.out
                                      have HFit := hid (show ∀ (w' : World), Grew wr w' → Calls Tryz.prog 66 #[.agg #[.string s, .slice A1 n1 c1, .slice (some ad) n2 c2], .int .i64 ((0 : Nat) : Int), .agg #[.int .u8 ((o.code : Nat) : Int), .int .i64 o.a, .int .i64 o.b], .int .i64 vars, .int .i64 classes] w' (fun e w'' => e = .returned (.bool (Mt.fits M 0 o vars classes)) ∧ ∃ y : After wr, w'' = y.w) from fun w' hg => by
                                        have hq := rfits_c (sel := s) (c1 := c1) (c2 := c2) (vars := vars) (classes := classes) (oa := o.a) (ob := o.b) (⟨HML.out.grew (HGz.out.trans hg), HMP.out.grew (HGz.out.trans hg), HN1.out, HN2.out, HLits.out, HHd.out, hlt, hoa, hob⟩ : RfIn w' l vs A1 (some ad) n1 n2 0 o.a o.b) o.code
                                        have hM : Mt.fits ⟨s, l, vs.map (·.p)⟩ 0 ⟨o.code, o.a, o.b⟩ vars classes = Mt.fits M 0 o vars classes := by rw [HMe.out]
                                        rw [hM] at hq
                                        exact Calls.after hg hq)
                                      have HFs : Hid (Mt.fits M 0 o vars classes = true → FitsTo M 0 L' vars classes (k + 1)) := hid (fun hf j x hj hx => by
                                        rcases Nat.lt_or_ge j k with h1 | h1
                                        · exact HK.out j x h1 hx
                                        · obtain rfl : j = k := by omega
                                          rw [ho] at hx
                                          obtain rfl := Option.some.inj hx
                                          exact hf)
                                      have HFn := hid (HWn.out _ _ _ _ HWell.out o hom)
                                      generalize Mt.fits M 0 o vars classes = bq at *
                                      have lz := (HBk.out.grew HGz.out).lt
                                      have l2 : ad2.block < wr.heap.size := Nat.lt_of_lt_of_le hb2 HGy.out.below.size
                                      clear hc2 ho hom hof hoa hob
                                      obtain ⟨cd, oa, ob⟩ := o
                                      simp only at y0 y1 y2 HFit
                                      go_wp2_with fail
                                      refine wp_region_grew_from (Grew.refl _) (by kernel_rfl) (by kernel_rfl) ?_
                                      repeat (go_big_quiet_step ((go_at_call 66; exact HFit.out _ (After.grew _))))
                                      refine wpQuiet_nil ?_
                                      rintro _ ⟨y5, rfl⟩
                                      clear y0 y1 y2 z0 z1 z2 lz l2
                                      cases bq
                                      · have HF := hid (HFn.out rfl)
                                        go_wp2_with fail
                                        go_ret
                                        exact ⟨congrArg (fun z => Ending.returned (.bool z)) HF.out.symm, HG1.out.trans (HGz.out.trans y5.grew)⟩
                                      · replace HFs := hid (HFs.out rfl)
                                        go_wp2_with fail
                                        go_round
                                        case rel => exact ⟨k + 1, by go_num, by omega, HGy.out.trans y5.grew, HFs⟩
                                        case measure => simp [intOf]; omega
                                    · obtain rfl : k = ln := by omega
                                      have hfa := fits_all (m := M) (p := 0) (l := L') (vars := vars) (classes := classes) (by rw [← HLn.out]; exact HK.out)
                                      have HCs := hid (HWl.out _ _ _ _ HWell.out hfa)
                                      clear hfa
                                      go_wp2_with fail
                                      go_round
                                      case rel => exact ⟨0 + 1, by go_num, by omega, HG4.out.trans HGy.out, hid ⟨HHd.out, HCs.out⟩⟩
                                      case measure => simp [intOf]; omega
                      · have e5 : (po != -1) = true := by rw [bne_iff_ne]; exact ho
                        have HF := hid (HNo.out (fun hm => by
                          have := HMh.out hm
                          rw [show Mt.headOk ⟨po, pa, pt, code⟩ 0 = false by simp only [Mt.headOk, Mt.outerOk]; simp [ho]] at this
                          cases this))
                        clear HMc HMh
                        go_wp2_with fail
                        go_ret
                        exact ⟨congrArg (fun z => Ending.returned (.bool z)) HF.out.symm, HG1.out.trans (HG.out.alloc _)⟩
                    · have f5 : (0 : Int) < (i : Int) := by omega
                      have f6 : ((i : Nat) : Int) ≠ 0 := by omega
                      by_cases ho : po < 0
                      · have HF := hid (HNo.out (fun hm => by
                          have := HMh.out hm
                          rw [show Mt.headOk ⟨po, pa, pt, code⟩ i = false by simp only [Mt.headOk, Mt.outerOk]; rw [if_neg (show ¬ i = 0 by omega)]; simp; omega] at this
                          cases this))
                        clear HMc HMh
                        go_wp2_with fail
                        go_ret
                        exact ⟨congrArg (fun z => Ending.returned (.bool z)) HF.out.symm, HG1.out.trans (HG.out.alloc _)⟩
                      · by_cases ho2 : (i : Int) ≤ po
                        · have HF := hid (HNo.out (fun hm => by
                            have := HMh.out hm
                            rw [show Mt.headOk ⟨po, pa, pt, code⟩ i = false by simp only [Mt.headOk, Mt.outerOk]; rw [if_neg (show ¬ i = 0 by omega)]; simp; omega] at this
                            cases this))
                          clear HMc HMh
                          go_wp2_with fail
                          go_ret
                          exact ⟨congrArg (fun z => Ending.returned (.bool z)) HF.out.symm, HG1.out.trans (HG.out.alloc _)⟩
                        · by_cases g1 : pa < 0
                          · have HF := hid (HNo.out (fun hm => by
                              have := HMh.out hm
                              rw [show Mt.headOk ⟨po, pa, pt, code⟩ i = false by simp only [Mt.headOk, Mt.outerOk]; rw [if_neg (show ¬ i = 0 by omega)]; simp; omega] at this
                              cases this))
                            clear HMc HMh
                            go_wp2_with fail
                            go_ret
                            exact ⟨congrArg (fun z => Ending.returned (.bool z)) HF.out.symm, HG1.out.trans (HG.out.alloc _)⟩
                          · by_cases g2 : 8 < pa
                            · have HF := hid (HNo.out (fun hm => by
                                have := HMh.out hm
                                rw [show Mt.headOk ⟨po, pa, pt, code⟩ i = false by simp only [Mt.headOk, Mt.outerOk]; rw [if_neg (show ¬ i = 0 by omega)]; simp; omega] at this
                                cases this))
                              clear HMc HMh
                              go_wp2_with fail
                              go_ret
                              exact ⟨congrArg (fun z => Ending.returned (.bool z)) HF.out.symm, HG1.out.trans (HG.out.alloc _)⟩
                            · by_cases g3 : pt < pa
                              · have HF := hid (HNo.out (fun hm => by
                                  have := HMh.out hm
                                  rw [show Mt.headOk ⟨po, pa, pt, code⟩ i = false by simp only [Mt.headOk, Mt.outerOk]; rw [if_neg (show ¬ i = 0 by omega)]; simp; omega] at this
                                  cases this))
                                clear HMc HMh
                                go_wp2_with fail
                                go_ret
                                exact ⟨congrArg (fun z => Ending.returned (.bool z)) HF.out.symm, HG1.out.trans (HG.out.alloc _)⟩
                              · by_cases g4 : 16 < pt
                                · have HF := hid (HNo.out (fun hm => by
                                    have := HMh.out hm
                                    rw [show Mt.headOk ⟨po, pa, pt, code⟩ i = false by simp only [Mt.headOk, Mt.outerOk]; rw [if_neg (show ¬ i = 0 by omega)]; simp; omega] at this
                                    cases this))
                                  clear HMc HMh
                                  go_wp2_with fail
                                  go_ret
                                  exact ⟨congrArg (fun z => Ending.returned (.bool z)) HF.out.symm, HG1.out.trans (HG.out.alloc _)⟩
                                · have HHd : Hid (HeadsTo vs (i + 1)) := hid (fun j y hj hy => by
                                    rcases Nat.lt_or_ge j i with h1 | h1
                                    · exact HH.out j y h1 hy
                                    · obtain rfl : j = i := by omega
                                      rw [HVi.out] at hy
                                      obtain rfl := Option.some.inj hy
                                      simp only [Mt.headOk, Mt.outerOk]
                                      rw [if_neg (show ¬ j = 0 by omega)]
                                      simp
                                      omega)
                                  clear HMh
                                  have hcap := HPo.out.2.1
                                  have hfew := HPo.out.2.2.2
                                  have HDp := hid (fun (W2 : World) (hg : Grew wr W2) => rdepths_c Ac cc code W2 (HPo.out.1.grew hg) hcap (by omega))
                                  have HDc := hid (fun (W2 : World) (hg : Grew wr W2) => rdecode_c Ac cc code W2 (HPo.out.1.grew hg) hcap (by omega))
                                  have HBx := hid (Blk.new wr 97 #[.int .i64 po, .int .i64 pa, .int .i64 pt, .slice Ac code.length cc])
                                  have HGx := hid ((Grew.refl wr).alloc (.cells #[.int .i64 po, .int .i64 pa, .int .i64 pt, .slice Ac code.length cc] 97))
                                  have HBn : Hid (∀ k, Fl.Bad code k → b = false) := hid (fun k hk => HNo.out (fun hm => by
                                    obtain ⟨l', os', G', D', h1, _⟩ := HMc.out hm
                                    exact hk.not_well h1))
                                  have HWl : Hid (∀ L os G D, Fl.Well code L os G D → L.all (fun o => Mt.fits M i o vars classes) = true → CodesTo M vs (i + 1) vars classes) := hid (fun L os G D hw hf j y hj hy => by
                                    rcases Nat.lt_or_ge j i with h1 | h1
                                    · exact HC.out j y h1 hy
                                    · obtain rfl : j = i := by omega
                                      rw [HVi.out] at hy
                                      obtain rfl := Option.some.inj hy
                                      exact ⟨L, os, G, D, hw, hf⟩)
                                  have HWn : Hid (∀ L os G D, Fl.Well code L os G D → ∀ o ∈ L, Mt.fits M i o vars classes = false → b = false) := hid (fun L os G D hw o ho hf => HNo.out (fun hm => by
                                    obtain ⟨l', os', G', D', h1, h2⟩ := HMc.out hm
                                    obtain ⟨rfl, _⟩ := hw.uniq h1
                                    have := List.all_eq_true.1 h2 o ho
                                    rw [hf] at this
                                    cases this))
                                  have HVl : Hid (∀ L os G D, Fl.Well code L os G D → (∀ o ∈ L, Op7.valid o) ∧ L.length ≤ 512 ∧ Op7.decR code = (L, os, 0)) := hid (fun L os G D hw => ⟨(decR_ok HPo.out.1.1 hw.dec).2.1, (hw.few HPo.out.1.1).2, hw.dec⟩)
                                  clear hcap hfew
                                  generalize code.length = cl at *
                                  go_wp2_with fail
                                  refine (HDp.out _ HGx.out).mono ?_
                                  clear q0 q1 q2 q3
                                  rintro e w3 (⟨k, rfl, hbad, hg3⟩ | ⟨A3, m3, c3, L, os, GG, DD, rfl, hwell, hg3⟩)
                                  · have HF := hid (HBn.out k hbad)
                                    have e0 : (((k : Nat) : Int) != 0) = true := by rw [bne, beq_eq_false_iff_ne.2 (by have := hbad.ne; omega)]; rfl
                                    have HG3 := hid (HG.out.trans (HGx.out.trans hg3))
                                    clear hbad hg3
                                    go_wp2_with fail
                                    go_ret
                                    exact ⟨congrArg (fun z => Ending.returned (.bool z)) HF.out.symm, HG1.out.trans HG3.out⟩
                                  · have HG3 := hid (HGx.out.trans hg3)
                                    have d3 := (HBx.out.grew hg3).cell 3
                                    simp only [List.getElem?_toArray, List.getElem?_cons_zero, List.getElem?_cons_succ] at d3
                                    obtain ⟨hval, hlen, hdec⟩ := HVl.out L os GG DD hwell
                                    have HDe := hid (HDc.out w3 HG3.out)
                                    rw [hdec] at HDe
                                    have HVal := hid hval
                                    have HWell := hid hwell
                                    clear hval hdec hwell hg3
                                    go_wp2_with fail
                                    refine HDe.out.mono ?_
                                    rintro e w4 ⟨B1, d1, B2, d2, L', rfl, hL, hI, _, hg4⟩
                                    simp only at hL
                                    subst hL
                                    have HOp := hid (RowI.ops hI)
                                    have HG4 := hid (HG.out.trans (HG3.out.trans hg4))
                                    obtain ⟨ln, hln⟩ : ∃ ln, ln = L'.length := ⟨_, rfl⟩
                                    rw [← hln] at hlen ⊢
                                    have HLn := hid hln
                                    clear hln hI hg4 d3 HDp HDc HDe HBx HGx HBn HVl
                                    go_wp2_with fail
                                    go_loopw [17] (fun s17 wr => ∃ k : Nat, s17 = .int .i64 ((k : Nat) : Int) ∧ k ≤ ln ∧ Grew w4 wr ∧ Hid (FitsTo M i L' vars classes k)) (fun s17 _ => ln - (intOf s17).toNat)
                                    case atStart => exact ⟨0, rfl, Nat.zero_le _, Grew.refl _, hid (fun j x hj => by omega)⟩
                                    case round =>
                                      obtain ⟨k, rfl, hk, hgx, HK⟩ := hrel
                                      have HGy := hid hgx
                                      clear hgx
                                      by_cases hkl : k < ln
                                      · have f9 : (k : Int) < ln := by omega
                                        obtain ⟨ad2, rfl, hb2, hc2⟩ := HOp.out.2 (by rw [← HLn.out]; omega)
                                        obtain ⟨o, ho⟩ : ∃ o, L'[k]? = some o := ⟨_, List.getElem?_eq_getElem (show k < L'.length by rw [← HLn.out]; exact hkl)⟩
                                        obtain ⟨y0, y1, y2⟩ := op_cell (o := o) (i := k) (ad := ad2) (w := wr) (fun j u hu => by
                                          rw [HGy.out.below.cell (by rw [block_add]; exact hb2)]; exact hc2 k o ho j u hu)
                                        have hom := List.mem_of_getElem? ho
                                        have hof := valid_fit (HVal.out o hom)
                                        have hoa : 0 ≤ o.a ∧ o.a ≤ 1000000 := by
                                          obtain ⟨_, ⟨a0, a1⟩, _⟩ := HVal.out o hom
                                          have hw := Op7.wid_le o.code
                                          have e1 : ((256 : Int) ^ (Op7.wid o.code).1) ≤ 256 ^ 2 := by
                                            rcases (by omega : (Op7.wid o.code).1 = 0 ∨ (Op7.wid o.code).1 = 1 ∨ (Op7.wid o.code).1 = 2) with e | e | e <;> rw [e] <;> decide
                                          exact ⟨a0, by omega⟩
                                        have hob : 0 ≤ o.b ∧ o.b ≤ 1000000 := ⟨hof.2.1, by omega⟩
                                        have HGz := hid (HG4.out.trans HGy.out)
                                        obtain ⟨z0, z1, z2⟩ := mvc HBk.out HGz.out
                                        have HFit := hid (show ∀ (w' : World), Grew wr w' → Calls Tryz.prog 66 #[.agg #[.string s, .slice A1 n1 c1, .slice (some ad) n2 c2], .int .i64 ((i : Nat) : Int), .agg #[.int .u8 ((o.code : Nat) : Int), .int .i64 o.a, .int .i64 o.b], .int .i64 vars, .int .i64 classes] w' (fun e w'' => e = .returned (.bool (Mt.fits M i o vars classes)) ∧ ∃ y : After wr, w'' = y.w) from fun w' hg => by
                                          have hq := rfits_c (sel := s) (c1 := c1) (c2 := c2) (vars := vars) (classes := classes) (oa := o.a) (ob := o.b) (⟨HML.out.grew (HGz.out.trans hg), HMP.out.grew (HGz.out.trans hg), HN1.out, HN2.out, HLits.out, HHd.out, hlt, hoa, hob⟩ : RfIn w' l vs A1 (some ad) n1 n2 i o.a o.b) o.code
                                          have hM : Mt.fits ⟨s, l, vs.map (·.p)⟩ i ⟨o.code, o.a, o.b⟩ vars classes = Mt.fits M i o vars classes := by rw [HMe.out]
                                          rw [hM] at hq
                                          exact Calls.after hg hq)
                                        have HFs : Hid (Mt.fits M i o vars classes = true → FitsTo M i L' vars classes (k + 1)) := hid (fun hf j x hj hx => by
                                          rcases Nat.lt_or_ge j k with h1 | h1
                                          · exact HK.out j x h1 hx
                                          · obtain rfl : j = k := by omega
                                            rw [ho] at hx
                                            obtain rfl := Option.some.inj hx
                                            exact hf)
                                        have HFn := hid (HWn.out _ _ _ _ HWell.out o hom)
                                        generalize Mt.fits M i o vars classes = bq at *
                                        have lz := (HBk.out.grew HGz.out).lt
                                        have l2 : ad2.block < wr.heap.size := Nat.lt_of_lt_of_le hb2 HGy.out.below.size
                                        clear hc2 ho hom hof hoa hob
                                        obtain ⟨cd, oa, ob⟩ := o
                                        simp only at y0 y1 y2 HFit
                                        go_wp2_with fail
                                        refine wp_region_grew_from (Grew.refl _) (by kernel_rfl) (by kernel_rfl) ?_
                                        repeat (go_big_quiet_step ((go_at_call 66; exact HFit.out _ (After.grew _))))
                                        refine wpQuiet_nil ?_
                                        rintro _ ⟨y5, rfl⟩
                                        clear y0 y1 y2 z0 z1 z2 lz l2
                                        cases bq
                                        · have HF := hid (HFn.out rfl)
                                          go_wp2_with fail
                                          go_ret
                                          exact ⟨congrArg (fun z => Ending.returned (.bool z)) HF.out.symm, HG1.out.trans (HGz.out.trans y5.grew)⟩
                                        · replace HFs := hid (HFs.out rfl)
                                          go_wp2_with fail
                                          go_round
                                          case rel => exact ⟨k + 1, by go_num, by omega, HGy.out.trans y5.grew, HFs⟩
                                          case measure => simp [intOf]; omega
                                      · obtain rfl : k = ln := by omega
                                        have hfa := fits_all (m := M) (p := i) (l := L') (vars := vars) (classes := classes) (by rw [← HLn.out]; exact HK.out)
                                        have HCs := hid (HWl.out _ _ _ _ HWell.out hfa)
                                        clear hfa
                                        go_wp2_with fail
                                        go_round
                                        case rel => exact ⟨i + 1, by go_num, by omega, HG4.out.trans HGy.out, hid ⟨HHd.out, HCs.out⟩⟩
                                        case measure => simp [intOf]; omega
                  · obtain rfl : i = n2 := by omega
                    have HF := hid (HBt.out (by have := HI.out.1; rwa [HN2.out] at this ⊢) (by have := HI.out.2; rwa [HN2.out] at this ⊢))
                    go_wp2_with fail
                    go_ret
                    exact ⟨congrArg (fun z => Ending.returned (.bool z)) HF.out.symm, HG1.out.trans HG.out⟩
          · have HF := hid (HNo.out (fun hm => har (HArgs.out hm v0 HV0.out)))
            have e1 : (v0.p.args != ((na : Nat) : Int)) = true := by rw [bne_iff_ne]; exact har
            clear har HOf HArgs HHead HCode
            subst hW
            go_enter Tryz.func46, Tryz.ntmps46
            go_wp2_with fail
            refine HA.out.mono ?_
            rintro e w1 ⟨kk, rfl, hkk, rfl⟩
            rw [hkk na rfl]
            clear hkk
            go_wp2_with fail
            go_ret
            exact ⟨congrArg (fun z => Ending.returned (.bool z)) HF.out.symm, HG1.out⟩
        · have HF := hid (HNo.out (fun hm => hp2 (HFew.out hm).2.2))
          have f3 : (64 : Int) < (n2 : Int) := by omega
          clear HOf HArgs HHead HCode hp2
          obtain ⟨z0, z1, z2⟩ := mvc HBk.out (Grew.refl W)
          subst hW
          go_enter Tryz.func46, Tryz.ntmps46
          go_wp2_with fail
          refine HA.out.mono ?_
          rintro e w1 ⟨kk, rfl, hkk, rfl⟩
          rw [hkk na rfl]
          clear hkk
          go_wp2_with fail
          go_ret
          exact ⟨congrArg (fun z => Ending.returned (.bool z)) HF.out.symm, HG1.out⟩
      · have HF := hid (HNo.out (fun hm => hp1 (HFew.out hm).2.1))
        have f2 : (n2 : Int) < 1 := by omega
        clear HOf HArgs HHead HCode hp1
        obtain ⟨z0, z1, z2⟩ := mvc HBk.out (Grew.refl W)
        subst hW
        go_enter Tryz.func46, Tryz.ntmps46
        go_wp2_with fail
        refine HA.out.mono ?_
        rintro e w1 ⟨kk, rfl, hkk, rfl⟩
        rw [hkk na rfl]
        clear hkk
        go_wp2_with fail
        go_ret
        exact ⟨congrArg (fun z => Ending.returned (.bool z)) HF.out.symm, HG1.out⟩
    · have HF := hid (HNo.out (fun hm => h64 (HFew.out hm).1))
      have f1 : (64 : Int) < (n1 : Int) := by omega
      clear HOf HArgs HHead HCode h64
      obtain ⟨z0, z1, z2⟩ := mvc HBk.out (Grew.refl W)
      subst hW
      go_enter Tryz.func46, Tryz.ntmps46
      go_wp2_with fail
      refine HA.out.mono ?_
      rintro e w1 ⟨kk, rfl, hkk, rfl⟩
      rw [hkk na rfl]
      clear hkk
      go_wp2_with fail
      go_ret
      exact ⟨congrArg (fun z => Ending.returned (.bool z)) HF.out.symm, HG1.out⟩
end Go.Proofs.YtjladeiecokpfaaGreatDoor
end

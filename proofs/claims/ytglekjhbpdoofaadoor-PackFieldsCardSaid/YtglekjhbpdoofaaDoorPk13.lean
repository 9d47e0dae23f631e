/- The document's own answer for law 06: a number at a place, a field behind bytes. -/
import Derived.Test.YtglekjhbpdoofaaDoorPk12
import Derived.Test.YtglekjhbpdoofaaDoorViS
import Derived.Test.YtglekjhbpdoofaaDoorFacts3
namespace Go.Proofs.YtglekjhbpdoofaaDoor
open Go.RowKit

/-- The place 'at' of the bytes 'b' is where a Reader with state 'st' is. -/
def AtSt (b : List Nat) (at_ : Int) (st : Pk.St) : Prop := (at_ = -1 ∧ st = none) ∨ ∃ k : Nat, k ≤ b.length ∧ at_ = (k : Int) ∧ st = some (b.drop k)
theorem AtSt.start (b : List Nat) : AtSt b 0 (some b) := .inr ⟨0, Nat.zero_le _, rfl, rfl⟩
theorem AtSt.all {b : List Nat} {a : Int} {st : Pk.St} (h : AtSt b a st) : a = (b.length : Int) ↔ st = some [] := by
  rcases h with ⟨rfl, rfl⟩ | ⟨k, hk, rfl, rfl⟩
  · constructor
    · intro h; omega
    · intro h; cases h
  · constructor
    · intro h
      rw [List.drop_eq_nil_of_le (by omega)]
    · intro h
      have := congrArg List.length (Option.some.inj h)
      rw [List.length_drop, List.length_nil] at this
      omega
def RNumPost (w : World) (b : List Nat) (r : Int × Pk.St) (e : Ending) (w' : World) : Prop :=
  ∃ a, e = .returned (.tuple #[.int .i64 r.1, .int .i64 a]) ∧ AtSt b a r.2 ∧ Grew w w'
set_option maxRecDepth 100000 in
set_option maxHeartbeats 2000000 in
theorem rnum_c (A : Option Addr) (c : Nat) (b : List Nat) (at_ lo hi : Int) (st : Pk.St) (w : World) (hb : BytesAt w w.heap.size A b) (hc : b.length ≤ c) (hm : c ≤ 9223372036854775807) (ha : AtSt b at_ st) :
    Calls Tryd.prog 31 #[.slice A b.length c, .int .i64 at_, .int .i64 lo, .int .i64 hi] w (RNumPost w b (Pk.int st lo hi)) := by
  rcases ha with ⟨rfl, rfl⟩ | ⟨k, hk, rfl, rfl⟩
  · go_enter Tryd.func31, Tryd.ntmps31
    go_wp2_with fail
    go_ret2
    exact ⟨-1, rfl, .inl ⟨rfl, rfl⟩, Grew.refl _⟩
  · have HP : Hid (Pk.int (some (b.drop k)) lo hi = match Pk.num (b.drop k) lo hi with | some (n, r) => (n, some r) | none => (0, none)) := hid rfl
    have HN : Hid (Pk.num (b.drop k) lo hi = if Vi.getE (b.drop k) = 0 ∧ lo ≤ Vi.getN (b.drop k) ∧ Vi.getN (b.drop k) ≤ hi then some (Vi.getN (b.drop k), (b.drop k).drop (Vi.getL (b.drop k)).length) else none) := hid rfl
    have HE : Hid (Vi.getE (b.drop k) = 0 ∨ Vi.getE (b.drop k) = 2) := hid (by unfold Vi.getE; split <;> simp)
    have HL := hid (Pk.getL_prefix (b.drop k)).length_le
    have hdl : (b.drop k).length = b.length - k := List.length_drop
    rw [hdl] at HL
    have HG : Hid (∀ (A' : Option Addr) (c' : Nat), (k = c ∧ A' = A ∧ c' = 0 ∨ A' = A.map (·.add k) ∧ c' = c - k) → Calls Tryd.prog 39 #[.slice A' (b.length - k) c'] w (RGetPost w (b.drop k))) := hid (fun A' c' h => by
      have hx : BytesAt w w.heap.size A' (b.drop k) := by
        refine ⟨fun x hx => hb.1 x (List.mem_of_mem_drop hx), fun hn => ?_⟩
        rcases h with ⟨h1, _⟩ | ⟨rfl, _⟩
        · omega
        · obtain ⟨ad, rfl, _⟩ := hb.2 (by omega)
          exact (NumsAt.of_bytes hb).drop k hn
      have := rget_c A' c' (b.drop k) w hx (by rcases h with ⟨_, _, rfl⟩ | ⟨_, rfl⟩ <;> omega) (by rcases h with ⟨_, _, rfl⟩ | ⟨_, rfl⟩ <;> omega)
      rwa [hdl] at this)
    unfold RGetPost at HG
    generalize Pk.int (some (b.drop k)) lo hi = res at *
    have HDD' : Hid (∀ j : Nat, (b.drop k).drop j = b.drop (k + j)) := hid (fun j => by rw [List.drop_drop])
    obtain ⟨E, hE⟩ : ∃ E, E = Vi.getE (b.drop k) := ⟨_, rfl⟩
    obtain ⟨n, hn⟩ : ∃ n, n = Vi.getN (b.drop k) := ⟨_, rfl⟩
    obtain ⟨m, hmm⟩ : ∃ m, m = (Vi.getL (b.drop k)).length := ⟨_, rfl⟩
    rw [← hE, ← hn, ← hmm] at HG HN
    rw [← hE] at HE
    rw [← hmm] at HL
    rw [HDD'.out m] at HN
    obtain ⟨len, hlen⟩ : ∃ len, len = b.length := ⟨_, rfl⟩
    rw [← hlen] at HG HL hk hc ⊢
    have HLen := hid hlen
    clear hE hn hmm HDD' hb hdl hlen
    have q1 : 0 ≤ (k : Int) := by omega
    have q2 : (k : Int) ≤ len := by omega
    have q3 : (k : Int) ≤ c := by omega
    have q4 : ¬ (k : Int) < 0 := by omega
    have q5 := HL.out
    have q6 : (k : Int) + m ≤ 9223372036854775807 := by omega
    clear hm
    rcases (by omega : k = c ∨ k < c) with hcap | hcap
    · obtain rfl := hcap
      have CG := hid (HG.out A 0 (.inl ⟨rfl, rfl, rfl⟩))
      rw [show len - k = 0 by omega] at CG
      clear HG
      by_cases hok : E = 0 ∧ lo ≤ n ∧ n ≤ hi
      · obtain ⟨rfl, h2, h3⟩ := hok
        have t1 : ¬ n < lo := by omega
        have t2 : ¬ hi < n := by omega
        have HR := hid (show res = (n, some (b.drop (k + m))) by rw [HP.out, HN.out, if_pos ⟨rfl, h2, h3⟩])
        clear HP HN HE h2 h3
        go_enter Tryd.func31, Tryd.ntmps31
        go_wp2_with fail
        refine CG.out.mono ?_
        rintro e w1 ⟨rfl, y, rfl⟩
        clear CG
        go_wp2_with fail
        go_ret2
        rw [HR.out]
        exact ⟨_, rfl, .inr ⟨k + m, by rw [← HLen.out]; omega, by push_cast; rfl, rfl⟩, y.grew⟩
      · have HR := hid (show res = (0, none) by rw [HP.out, HN.out, if_neg hok])
        rcases HE.out with rfl | rfl
        · rcases (by omega : n < lo ∨ (lo ≤ n ∧ hi < n)) with h1 | ⟨h1, h2⟩
          all_goals
            try (have t1 : ¬ n < lo := by omega)
            clear hok HE HP HN
            go_enter Tryd.func31, Tryd.ntmps31
            go_wp2_with fail
            refine CG.out.mono ?_
            rintro e w1 ⟨rfl, y, rfl⟩
            clear CG
            go_wp2_with fail
            go_ret2
            rw [HR.out]
            exact ⟨-1, rfl, .inl ⟨rfl, rfl⟩, y.grew⟩
        · clear hok HE HP HN
          go_enter Tryd.func31, Tryd.ntmps31
          go_wp2_with fail
          refine CG.out.mono ?_
          rintro e w1 ⟨rfl, y, rfl⟩
          clear CG
          go_wp2_with fail
          go_ret2
          rw [HR.out]
          exact ⟨-1, rfl, .inl ⟨rfl, rfl⟩, y.grew⟩
    · have t9 : ¬ k = c := by omega
      have CG := hid (HG.out (A.map (·.add k)) (c - k) (.inr ⟨rfl, rfl⟩))
      clear HG
      by_cases hok : E = 0 ∧ lo ≤ n ∧ n ≤ hi
      · obtain ⟨rfl, h2, h3⟩ := hok
        have t1 : ¬ n < lo := by omega
        have t2 : ¬ hi < n := by omega
        have HR := hid (show res = (n, some (b.drop (k + m))) by rw [HP.out, HN.out, if_pos ⟨rfl, h2, h3⟩])
        clear HP HN HE h2 h3
        go_enter Tryd.func31, Tryd.ntmps31
        go_wp2_with fail
        refine CG.out.mono ?_
        rintro e w1 ⟨rfl, y, rfl⟩
        clear CG
        go_wp2_with fail
        go_ret2
        rw [HR.out]
        exact ⟨_, rfl, .inr ⟨k + m, by rw [← HLen.out]; omega, by push_cast; rfl, rfl⟩, y.grew⟩
      · have HR := hid (show res = (0, none) by rw [HP.out, HN.out, if_neg hok])
        rcases HE.out with rfl | rfl
        · rcases (by omega : n < lo ∨ (lo ≤ n ∧ hi < n)) with h1 | ⟨h1, h2⟩
          all_goals
            try (have t1 : ¬ n < lo := by omega)
            clear hok HE HP HN
            go_enter Tryd.func31, Tryd.ntmps31
            go_wp2_with fail
            refine CG.out.mono ?_
            rintro e w1 ⟨rfl, y, rfl⟩
            clear CG
            go_wp2_with fail
            go_ret2
            rw [HR.out]
            exact ⟨-1, rfl, .inl ⟨rfl, rfl⟩, y.grew⟩
        · clear hok HE HP HN
          go_enter Tryd.func31, Tryd.ntmps31
          go_wp2_with fail
          refine CG.out.mono ?_
          rintro e w1 ⟨rfl, y, rfl⟩
          clear CG
          go_wp2_with fail
          go_ret2
          rw [HR.out]
          exact ⟨-1, rfl, .inl ⟨rfl, rfl⟩, y.grew⟩
end Go.Proofs.YtglekjhbpdoofaaDoor

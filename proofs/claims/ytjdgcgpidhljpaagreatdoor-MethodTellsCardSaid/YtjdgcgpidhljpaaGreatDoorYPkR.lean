/- Parts of elder texts that this layer needs, joined: XPk13 XPk14 XPk15 XPk16 XPk17 XPk18. -/
import Derived.Test.YtjdgcgpidhljpaaGreatDoorYPkC
import Derived.Test.YtjdgcgpidhljpaaGreatDoorYViR
import Derived.Test.YtjdgcgpidhljpaaGreatDoorYBase
namespace Go.Proofs.YtjdgcgpidhljpaaGreatDoor
open Go.RowKit

/-- The place 'at' of the bytes 'b' is where a Reader with state 'st' is. -/
def AtSt (b : List Nat) (at_ : Int) (st : Pk.St) : Prop := (at_ = -1 ∧ st = none) ∨ ∃ k : Nat, k ≤ b.length ∧ at_ = (k : Int) ∧ st = some (b.drop k)
theorem AtSt.start (b : List Nat) : AtSt b 0 (some b) := .inr ⟨0, Nat.zero_le _, rfl, rfl⟩
theorem AtSt.all {b : List Nat} {a : Int} {st : Pk.St} (h : AtSt b a st) : a = (b.length : Int) ↔ st = some [] := by
  rcases h with ⟨rfl, rfl⟩ | ⟨k, hk, rfl, rfl⟩
  · constructor
    · intro h; omega
    · intro h; cases h
  · constructor
    · intro h
      rw [List.drop_eq_nil_of_le (by omega)]
    · intro h
      have := congrArg List.length (Option.some.inj h)
      rw [List.length_drop, List.length_nil] at this
      omega
def RNumPost (w : World) (b : List Nat) (r : Int × Pk.St) (e : Ending) (w' : World) : Prop :=
  ∃ a, e = .returned (.tuple #[.int .i64 r.1, .int .i64 a]) ∧ AtSt b a r.2 ∧ Grew w w'
set_option maxRecDepth 100000 in
set_option maxHeartbeats 2000000 in
theorem rnum_c (A : Option Addr) (c : Nat) (b : List Nat) (at_ lo hi : Int) (st : Pk.St) (w : World) (hb : BytesAt w w.heap.size A b) (hc : b.length ≤ c) (hm : c ≤ 9223372036854775807) (ha : AtSt b at_ st) :
    Calls Tryz.prog 72 #[.slice A b.length c, .int .i64 at_, .int .i64 lo, .int .i64 hi] w (RNumPost w b (Pk.int st lo hi)) := by
  rcases ha with ⟨rfl, rfl⟩ | ⟨k, hk, rfl, rfl⟩
  · go_enter Tryz.func72, Tryz.ntmps72
    go_wp2_with fail
    go_ret2
    exact ⟨-1, rfl, .inl ⟨rfl, rfl⟩, Grew.refl _⟩
  · have HP : Hid (Pk.int (some (b.drop k)) lo hi = match Pk.num (b.drop k) lo hi with | some (n, r) => (n, some r) | none => (0, none)) := hid rfl
    have HN : Hid (Pk.num (b.drop k) lo hi = if Vi.getE (b.drop k) = 0 ∧ lo ≤ Vi.getN (b.drop k) ∧ Vi.getN (b.drop k) ≤ hi then some (Vi.getN (b.drop k), (b.drop k).drop (Vi.getL (b.drop k)).length) else none) := hid rfl
    have HE : Hid (Vi.getE (b.drop k) = 0 ∨ Vi.getE (b.drop k) = 2) := hid (by unfold Vi.getE; split <;> simp)
    have HL := hid (Pk.getL_prefix (b.drop k)).length_le
    have hdl : (b.drop k).length = b.length - k := List.length_drop
    rw [hdl] at HL
    have HG : Hid (∀ (A' : Option Addr) (c' : Nat), (k = c ∧ A' = A ∧ c' = 0 ∨ A' = A.map (·.add k) ∧ c' = c - k) → Calls Tryz.prog 107 #[.slice A' (b.length - k) c'] w (RGetPost w (b.drop k))) := hid (fun A' c' h => by
      have hx : BytesAt w w.heap.size A' (b.drop k) := by
        refine ⟨fun x hx => hb.1 x (List.mem_of_mem_drop hx), fun hn => ?_⟩
        rcases h with ⟨h1, _⟩ | ⟨rfl, _⟩
        · omega
        · obtain ⟨ad, rfl, _⟩ := hb.2 (by omega)
          exact (NumsAt.of_bytes hb).drop k hn
      have := rget_c A' c' (b.drop k) w hx (by rcases h with ⟨_, _, rfl⟩ | ⟨_, rfl⟩ <;> omega) (by rcases h with ⟨_, _, rfl⟩ | ⟨_, rfl⟩ <;> omega)
      rwa [hdl] at this)
    unfold RGetPost at HG
    generalize Pk.int (some (b.drop k)) lo hi = res at *
    have HDD' : Hid (∀ j : Nat, (b.drop k).drop j = b.drop (k + j)) := hid (fun j => by rw [List.drop_drop])
    obtain ⟨E, hE⟩ : ∃ E, E = Vi.getE (b.drop k) := ⟨_, rfl⟩
    obtain ⟨n, hn⟩ : ∃ n, n = Vi.getN (b.drop k) := ⟨_, rfl⟩
    obtain ⟨m, hmm⟩ : ∃ m, m = (Vi.getL (b.drop k)).length := ⟨_, rfl⟩
    rw [← hE, ← hn, ← hmm] at HG HN
    rw [← hE] at HE
    rw [← hmm] at HL
    rw [HDD'.out m] at HN
    obtain ⟨len, hlen⟩ : ∃ len, len = b.length := ⟨_, rfl⟩
    rw [← hlen] at HG HL hk hc ⊢
    have HLen := hid hlen
    clear hE hn hmm HDD' hb hdl hlen
    have q1 : 0 ≤ (k : Int) := by omega
    have q2 : (k : Int) ≤ len := by omega
    have q3 : (k : Int) ≤ c := by omega
    have q4 : ¬ (k : Int) < 0 := by omega
    have q5 := HL.out
    have q6 : (k : Int) + m ≤ 9223372036854775807 := by omega
    clear hm
    rcases (by omega : k = c ∨ k < c) with hcap | hcap
    · obtain rfl := hcap
      have CG := hid (HG.out A 0 (.inl ⟨rfl, rfl, rfl⟩))
      rw [show len - k = 0 by omega] at CG
      clear HG
      by_cases hok : E = 0 ∧ lo ≤ n ∧ n ≤ hi
      · obtain ⟨rfl, h2, h3⟩ := hok
        have t1 : ¬ n < lo := by omega
        have t2 : ¬ hi < n := by omega
        have HR := hid (show res = (n, some (b.drop (k + m))) by rw [HP.out, HN.out, if_pos ⟨rfl, h2, h3⟩])
        clear HP HN HE h2 h3
        go_enter Tryz.func72, Tryz.ntmps72
        go_wp2_with fail
        refine CG.out.mono ?_
        rintro e w1 ⟨rfl, y, rfl⟩
        clear CG
        go_wp2_with fail
        go_ret2
        rw [HR.out]
        exact ⟨_, rfl, .inr ⟨k + m, by rw [← HLen.out]; omega, by push_cast; rfl, rfl⟩, y.grew⟩
      · have HR := hid (show res = (0, none) by rw [HP.out, HN.out, if_neg hok])
        rcases HE.out with rfl | rfl
        · rcases (by omega : n < lo ∨ (lo ≤ n ∧ hi < n)) with h1 | ⟨h1, h2⟩
          all_goals
            try (have t1 : ¬ n < lo := by omega)
            clear hok HE HP HN
            go_enter Tryz.func72, Tryz.ntmps72
            go_wp2_with fail
            refine CG.out.mono ?_
            rintro e w1 ⟨rfl, y, rfl⟩
            clear CG
            go_wp2_with fail
            go_ret2
            rw [HR.out]
            exact ⟨-1, rfl, .inl ⟨rfl, rfl⟩, y.grew⟩
        · clear hok HE HP HN
          go_enter Tryz.func72, Tryz.ntmps72
          go_wp2_with fail
          refine CG.out.mono ?_
          rintro e w1 ⟨rfl, y, rfl⟩
          clear CG
          go_wp2_with fail
          go_ret2
          rw [HR.out]
          exact ⟨-1, rfl, .inl ⟨rfl, rfl⟩, y.grew⟩
    · have t9 : ¬ k = c := by omega
      have CG := hid (HG.out (A.map (·.add k)) (c - k) (.inr ⟨rfl, rfl⟩))
      clear HG
      by_cases hok : E = 0 ∧ lo ≤ n ∧ n ≤ hi
      · obtain ⟨rfl, h2, h3⟩ := hok
        have t1 : ¬ n < lo := by omega
        have t2 : ¬ hi < n := by omega
        have HR := hid (show res = (n, some (b.drop (k + m))) by rw [HP.out, HN.out, if_pos ⟨rfl, h2, h3⟩])
        clear HP HN HE h2 h3
        go_enter Tryz.func72, Tryz.ntmps72
        go_wp2_with fail
        refine CG.out.mono ?_
        rintro e w1 ⟨rfl, y, rfl⟩
        clear CG
        go_wp2_with fail
        go_ret2
        rw [HR.out]
        exact ⟨_, rfl, .inr ⟨k + m, by rw [← HLen.out]; omega, by push_cast; rfl, rfl⟩, y.grew⟩
      · have HR := hid (show res = (0, none) by rw [HP.out, HN.out, if_neg hok])
        rcases HE.out with rfl | rfl
        · rcases (by omega : n < lo ∨ (lo ≤ n ∧ hi < n)) with h1 | ⟨h1, h2⟩
          all_goals
            try (have t1 : ¬ n < lo := by omega)
            clear hok HE HP HN
            go_enter Tryz.func72, Tryz.ntmps72
            go_wp2_with fail
            refine CG.out.mono ?_
            rintro e w1 ⟨rfl, y, rfl⟩
            clear CG
            go_wp2_with fail
            go_ret2
            rw [HR.out]
            exact ⟨-1, rfl, .inl ⟨rfl, rfl⟩, y.grew⟩
        · clear hok HE HP HN
          go_enter Tryz.func72, Tryz.ntmps72
          go_wp2_with fail
          refine CG.out.mono ?_
          rintro e w1 ⟨rfl, y, rfl⟩
          clear CG
          go_wp2_with fail
          go_ret2
          rw [HR.out]
          exact ⟨-1, rfl, .inl ⟨rfl, rfl⟩, y.grew⟩
end Go.Proofs.YtjdgcgpidhljpaaGreatDoor
namespace Go.Proofs.YtjdgcgpidhljpaaGreatDoor
open Go.RowKit

def RPutPostP (w : World) (xs : List Nat) (f : Pk.Fd) (e : Ending) (w' : World) : Prop :=
  ∃ A' c' L, e = .returned (.slice A' (List.length L) c') ∧ NumsAt .u8 w' w'.heap.size A' L ∧ L = xs ++ Pk.put f ∧ (∀ ad, A' = some ad → w.heap.size ≤ ad.block ∧ ad.block < w'.heap.size) ∧ Grew w w'
theorem own_in {k : IntKind} {w w' : World} {e : TypeId} {A : Option Addr} {c : Nat} {L : List Nat} (h : OwnNums k w w' e A c L) : ∀ ad, A = some ad → w.heap.size ≤ ad.block ∧ ad.block < w'.heap.size := by
  intro ad had
  rcases h.cases with ⟨h0, _⟩ | ⟨q, h1, h2, h3, _⟩
  · rw [h0] at had; cases had
  · rw [h1] at had; cases had
    exact ⟨h2, h3⟩
theorem RPutPostP.of_put {w w1 w' : World} {xs : List Nat} {n : Int} {f : Pk.Fd} {e : Ending} (hg : Grew w w1) (hf : Pk.put f = Vi.enc n) (h : PutPost w1 xs n e w') : RPutPostP w xs f e w' := by
  obtain ⟨A', c', L, h1, h2, h3, h4⟩ := h
  exact ⟨A', c', L, h1, h2.at, by rw [h3, hf], fun ad e => ⟨Nat.le_trans hg.below.size (own_in h2 ad e).1, (own_in h2 ad e).2⟩, hg.trans h4⟩
/-- What the operations of the last return give. -/
def Rp6F (W : World) (H : Nat) (xs : List Nat) (s : ByteArray) (n : Nat) (vb : Value) (i : Nat) (v : Value) (w : World) : Prop := match i with
  | 0 => v = vb
  | 1 => v = .pointer (some ⟨H, 3, none⟩)
  | 2 => v = .string s
  | 3 => v = .int .i64 ((s.size : Nat) : Int)
  | 4 => ∃ A' c' L, v = .slice A' (List.length L) c' ∧ OwnNums .u8 W w 5 A' c' L ∧ L = xs ++ Vi.enc (s.size : Int)
  | 5 => v = .pointer (some ⟨H, 3, none⟩)
  | 6 => v = .string s
  | _ => ∃ G c', v = .slice (some ⟨G, 0, none⟩) n c' ∧ NumsAt .u8 w w.heap.size (some ⟨G, 0, none⟩) (Pk.natsOf s)
theorem Rp6F.mono {W : World} {H : Nat} {xs : List Nat} {s : ByteArray} {n : Nat} {vb : Value} (i : Nat) (v : Value) (w w' : World) (h : Rp6F W H xs s n vb i v w) (hg : Grew w w') : Rp6F W H xs s n vb i v w' := by
  unfold Rp6F at *
  split at h
  all_goals
    first
      | exact h
      | (obtain ⟨A', c', L, h1, h2, h3⟩ := h; exact ⟨A', c', L, h1, h2.grew hg, h3⟩)
      | (obtain ⟨G, c', h1, h2⟩ := h; exact ⟨G, c', h1, h2.grew hg⟩)

set_option maxRecDepth 100000 in
set_option maxHeartbeats 4000000 in
theorem rput6_c (A : Option Addr) (c : Nat) (xs : List Nat) (v : FdV) (w : World) (ha : NumsAt .u8 w w.heap.size A xs) (hv : FdOk w w.heap.size v) (hl : xs.length + 10 * v.f.l.length + v.f.s.size + 10 ≤ 1000000000) :
    Calls Tryz.prog 28 #[.slice A xs.length c, .agg v.cells] w (RPutPostP w xs v.f) := by
  obtain ⟨f, A1, c1⟩ := v
  obtain ⟨kind, n, l, s, many, lo, hi⟩ := f
  obtain ⟨hk, hn, hil, _, _, hlb⟩ := hv
  simp only at hk hn hil hlb hl
  show Calls Tryz.prog 28 #[.slice A xs.length c, .agg #[.int .u8 ((kind : Nat) : Int), .int .i64 n, .slice A1 l.length c1, .string s, .int .i64 many, .int .i64 lo, .int .i64 hi]] w (RPutPostP w xs ⟨kind, n, l, s, many, lo, hi⟩)
  have HA := hid ha
  have HN := hid hn
  have HIL := hid hil
  have HL := hid hl
  clear ha hn hil hl hlb hk
  have hbb := Blk.new w 80 #[.int .u8 ((kind : Nat) : Int), .int .i64 n, .slice A1 l.length c1, .string s, .int .i64 many, .int .i64 lo, .int .i64 hi]
  have hg0 := (Grew.refl w).alloc (.cells #[.int .u8 ((kind : Nat) : Int), .int .i64 n, .slice A1 l.length c1, .string s, .int .i64 many, .int .i64 lo, .int .i64 hi] 80)
  have HB := hid hbb
  have HG := hid hg0
  clear hbb hg0
  obtain ⟨k, ek⟩ : ∃ k, k = xs.length := ⟨_, rfl⟩
  rw [← ek]
  have EK := hid ek
  clear ek
  rcases (by omega : kind = 0 ∨ kind = 1 ∨ (kind ≠ 0 ∧ kind ≠ 1)) with rfl | rfl | ⟨h0, h1⟩
  · rw [show (((0 : Nat) : Nat) : Int) = 0 from rfl] at HB HG ⊢
    have C1 := hid (fun (w1 : World) (hg : Grew w w1) => (rput_c A c xs n w1 (HA.out.grew hg) HN.out (by have := HL.out; omega)).mono fun _ _ h => RPutPostP.of_put (f := ⟨0, n, l, s, many, lo, hi⟩) hg rfl h)
    rw [← EK.out] at C1
    clear HA HN HIL HL HB
    go_enter Tryz.func28, Tryz.ntmps28
    go_wp2_with fail
    refine (C1.out _ HG.out).mono ?_
    rintro e w1 ⟨A', c', L, rfl, h1, h2, h3, h4⟩
    have HE := hid (And.intro h1 (And.intro h2 (And.intro h3 h4)))
    clear h1 h2 h3 h4 C1
    go_wp2_with fail
    go_ret
    exact ⟨A', c', L, rfl, HE.out.1, HE.out.2.1, HE.out.2.2.1, HE.out.2.2.2⟩
  · rw [show (((1 : Nat) : Nat) : Int) = 1 from rfl] at HB HG ⊢
    obtain ⟨m, em⟩ : ∃ m, m = l.length := ⟨_, rfl⟩
    have C1 := hid (fun (w1 : World) (hg : Grew w w1) => (rput_c A c xs (l.length : Int) w1 (HA.out.grew hg) (show Vi.I64 (l.length : Int) by have := HL.out; unfold Vi.I64; omega) (by have := HL.out; omega)))
    rw [← EK.out] at C1
    rw [← em] at HB HG C1 ⊢
    have EM := hid em
    have hmb : m ≤ 1000000000 := by have := HL.out; omega
    clear HN em
    go_enter Tryz.func28, Tryz.ntmps28
    go_wp2_with fail
    obtain ⟨wb, hwb⟩ : ∃ wb, wb = w.alloc (.cells #[.int .u8 1, .int .i64 n, .slice A1 m c1, .string s, .int .i64 many, .int .i64 lo, .int .i64 hi] 80) := ⟨_, rfl⟩
    rw [← hwb] at HB HG ⊢
    clear hwb
    refine (C1.out _ HG.out).mono ?_
    rintro e w1 ⟨A2, c2, L2, rfl, hO, hL, hg1⟩
    have H0 := hid (show NumsAt .u8 w1 w1.heap.size A2 L2 ∧ L2 = xs ++ (Vi.enc (m : Int) ++ Pk.encs (l.take 0)) ∧ (∀ ad, A2 = some ad → w.heap.size ≤ ad.block ∧ ad.block < w1.heap.size) ∧ Grew wb w1 from ⟨hO.at, by rw [hL]; simp [Pk.encs], fun ad e => ⟨Nat.le_trans HG.out.below.size (own_in hO ad e).1, (own_in hO ad e).2⟩, hg1⟩)
    have HL2 := hid (show L2.length ≤ k + 10 by rw [hL, List.length_append, EK.out]; have := Vi.enc_len (m : Int); omega)
    clear hO hL hg1 C1
    go_wp2_with fail
    go_loopw [0, 5] (fun s0 s5 wr => ∃ (i : Nat) (A3 : Option Addr) (c3 : Nat) (L3 : List Nat), s0 = .slice A3 (List.length L3) c3 ∧ s5 = .int .i64 ((i : Nat) : Int) ∧ i ≤ m ∧ Hid (NumsAt .u8 wr wr.heap.size A3 L3 ∧ L3 = xs ++ (Vi.enc (m : Int) ++ Pk.encs (l.take i)) ∧ (∀ ad, A3 = some ad → w.heap.size ≤ ad.block ∧ ad.block < wr.heap.size) ∧ Grew wb wr)) (fun _ s5 _ => m - (intOf s5).toNat)
    case atStart => exact ⟨0, A2, c2, L2, rfl, rfl, Nat.zero_le _, H0⟩
    case round =>
      clear H0 HL2
      obtain ⟨i, A3, c3, L3, rfl, rfl, hi2, H⟩ := hrel
      obtain ⟨y0, y1, y2, y3, y4, y5, y6, yf⟩ := (HB.out.grew H.out.2.2.2).seven
      clear y0 y1 y3 y4 y5 y6 yf
      by_cases hlt : i < m
      · have f1 : (i : Int) < m := by omega
        obtain ⟨ad, rfl, hb, hcell⟩ := (HIL.out.grew (HG.out.trans H.out.2.2.2)).2 (by rw [← EM.out]; omega)
        have hx := hcell i (by rw [← EM.out]; exact hlt)
        have hx64 := HIL.out.i64 i
        have HT := hid (show Pk.encs (l.take (i + 1)) = Pk.encs (l.take i) ++ Vi.enc (l.getD i 0) by rw [ints_take (by rw [← EM.out]; exact hlt), Pk.encs_snoc])
        have HLen := hid (show L3.length ≤ 1000000000000 by
          have h1 := (Pk.encs_len (l.take i)).2
          have h2 := Vi.enc_len (m : Int)
          have h3 := HL.out
          rw [List.length_take] at h1
          rw [H.out.2.1, List.length_append, List.length_append]
          have := EK.out
          omega)
        generalize l.getD i 0 = x at *
        have CP := hid (rput_c A3 c3 L3 x wr H.out.1 hx64 HLen.out)
        clear hcell hb
        go_wp2_with fail
        refine CP.out.mono ?_
        rintro e w2 ⟨A4, c4, L4, rfl, hO, hL4, hg⟩
        have HE := hid (show NumsAt .u8 w2 w2.heap.size A4 L4 ∧ L4 = xs ++ (Vi.enc (m : Int) ++ Pk.encs (l.take (i + 1))) ∧ (∀ ad, A4 = some ad → w.heap.size ≤ ad.block ∧ ad.block < w2.heap.size) ∧ Grew wb w2 from ⟨hO.at, by rw [hL4, H.out.2.1, HT.out]; simp, fun ad e => ⟨Nat.le_trans (HG.out.trans H.out.2.2.2).below.size (own_in hO ad e).1, (own_in hO ad e).2⟩, H.out.2.2.2.trans hg⟩)
        clear hO hL4 hg CP
        go_wp2_with fail
        go_roundw
        case rel => exact ⟨i + 1, A4, c4, L4, rfl, by go_num, by omega, HE⟩
        case measure => simp [intOf]; omega
      · obtain rfl : i = m := by omega
        go_wp2_with fail
        go_ret
        refine ⟨A3, c3, L3, rfl, H.out.1, ?_, H.out.2.2.1, HG.out.trans H.out.2.2.2⟩
        rw [H.out.2.1, List.take_of_length_le (by rw [← EM.out]; omega), EM.out]
        rfl
  · have HP := hid (show Pk.put ⟨kind, n, l, s, many, lo, hi⟩ = Vi.enc (s.size : Int) ++ Pk.natsOf s by unfold Pk.put; rw [if_neg h0, if_neg h1])
    have t0 : ((kind : Int) == 0) = false := by rw [beq_eq_false_iff_ne]; omega
    have t1 : ((kind : Int) == 1) = false := by rw [beq_eq_false_iff_ne]; omega
    clear h0 h1 HN HIL
    generalize l.length = len at *
    go_enter Tryz.func28, Tryz.ntmps28
    go_upto_region 11 with fail
    obtain ⟨wb, hwb⟩ : ∃ wb, wb = w.alloc (.cells #[.int .u8 ((kind : Nat) : Int), .int .i64 n, .slice A1 len c1, .string s, .int .i64 many, .int .i64 lo, .int .i64 hi] 80) := ⟨_, rfl⟩
    rw [← hwb] at HB HG ⊢
    clear hwb
    obtain ⟨H, hH⟩ : ∃ H, H = w.heap.size := ⟨_, rfl⟩
    rw [← hH] at HB ⊢
    have HH := hid hH
    clear hH
    have C1 := hid (fun (w1 : World) (hg : Grew wb w1) => (rput_c A c xs (s.size : Int) w1 (HA.out.grew (HG.out.trans hg)) (show Vi.I64 (s.size : Int) by have := HL.out; unfold Vi.I64; omega) (by have := HL.out; omega)))
    rw [← EK.out] at C1
    have HCV := hid (fun (w1 : World) => run_bytes_of_string (P := Tryz.prog) w1 9 26 5 s Tryz.underlying9 Tryz.underlying26 Tryz.underlying5)
    refine wp_region_facts3 (w0 := wb) _ 6 8 [36, 37, 38, 39, 40, 41, 42, 43] [] (Rp6F wb H xs s s.size (.slice A k c)) Grew (fun _ _ => True) 99 May.grew (by kernel_rfl) (by kernel_rfl) (Grew.refl _).drew trivial Rp6F.mono ?_ ?_
    · repeat' (first | exact trivial | apply And.intro)
      all_goals
        intro a w' b hgw hJ hbm hs hA
        have e0 := hs.eval 0 (by decide) (v := .slice A k c) rfl
        have e3 := hs.eval 3 (by decide) (v := .pointer (some ⟨H, 0, none⟩)) rfl
        have y3 := (HB.out.grew hgw).seven.2.2.2.1
        have hcv := HCV.out w'
        have HGW := hid hgw
        clear hs hgw hJ hbm
        simp only [Ahead, Region.binds, slotOf, Rp6F, List.getD_cons_succ, List.getD_cons_zero, forall_const, and_true] at hA
        simp only [wantedD, if_true]
        unfold Oper.wp
        have ec : ∀ v, a.eval (.const v) = v := fun _ => rfl
        generalize hf : a.eval = f at *
        have ef : ∀ k, f (.func k) = Act.eval ⟨#[], []⟩ (.func k) := fun k => by rw [← hf]; rfl
        clear hf
        first
          | (go_simp; exact Gives3.of rfl (Grew.refl _) rfl trivial)
          | (go_simp; refine (C1.out _ HGW.out).mono ?_; rintro e w3 ⟨A9, c9, L9, rfl, h1, h2, h3⟩; exact Gives3.of rfl h3 ⟨A9, c9, L9, rfl, h1.mono HGW.out, h2⟩ trivial)
          | (go_simp; exact Gives3.of rfl ((Grew.refl w').drew.alloc _) ⟨_, _, rfl, nums_conv w' s _ _ _⟩ trivial)
    · intro a w3 hgw hs hf _ _
      have h4 := hf 4 (by decide)
      have h7 := hf 7 (by decide)
      simp only [slotOf, Rp6F, List.getD_cons_succ, List.getD_cons_zero] at h4 h7
      obtain ⟨A9, c9, L9, e4, hO, hL9⟩ := h4
      obtain ⟨G, cg, e7, hG⟩ := h7
      obtain ⟨f, rfl, hft⟩ := hs.put
      rw [hft] at e4 e7
      clear hf hft hs
      simp only [List.drop_succ_cons, List.drop_zero, putAll, List.foldl_cons, List.foldl_nil, Act.put, List.setIfInBounds_toArray, List.set_cons_succ, List.set_cons_zero, e4, e7]
      clear e4 e7
      have HG9 := hid (hG.cells)
      rw [Pk.natsOf_len] at HG9
      have HGB := hid (HG.out.trans hgw)
      have hgz := hgw.below.size
      have HL9 := hid hL9
      have HO9 := hid (Row.of_own hO)
      have HLen := hid (show L9.length + s.size ≤ 1000000000000 by
        rw [hL9, List.length_append]
        have h1 := Vi.enc_len (s.size : Int)
        have h2 := HL.out
        omega)
      obtain ⟨z, hz⟩ : ∃ z, z = L9.length := ⟨_, rfl⟩
      rw [← hz] at HO9 HLen ⊢
      have HZ := hid hz
      clear hG hO hL9 hgw hz
      go_wp2_with (at_builtin; refine wpList_catR (.int .u8 0) 1 1 w3 rfl _ _ 26 5 rfl Tryz.underlying26 v6_u8 rfl (by decide) wb.heap.size hgz A9 z c9 (numCells .u8 L9) rfl HO9.out (some ⟨G, 0, none⟩) s.size cg (numCells .u8 (Pk.natsOf s)) rfl (by rw [numCells_length, Pk.natsOf_len, Nat.mul_one]) (numCells_one _ _) HG9.out.1 HG9.out.2 (by have := HLen.out; omega) (by have := HLen.out; omega) ?_; rintro A7 c7 w7 hR7 hK7 hT7)
      go_ret
      rw [← numCells_append] at hR7
      have hlen7 : (L9 ++ Pk.natsOf s).length = z + s.size := by rw [List.length_append, ← HZ.out, Pk.natsOf_len]
      have hsz := HG.out.below.size
      refine ⟨A7, c7, L9 ++ Pk.natsOf s, by rw [hlen7]; rfl, Row.nums (by rw [hlen7]; exact hR7), by rw [HL9.out, HP.out, List.append_assoc], fun ad e => ⟨Nat.le_trans hsz (hR7.in ad e).1, (hR7.in ad e).2⟩, hK7.grew HGB.out (fun q hq => ?_)⟩
      obtain ⟨ad, h1, h2⟩ := hq
      rw [← h2]
      exact Nat.le_trans hsz (HO9.out.in ad h1).1
end Go.Proofs.YtjdgcgpidhljpaaGreatDoor
namespace Go.Proofs.YtjdgcgpidhljpaaGreatDoor
open Go.RowKit

set_option maxRecDepth 100000 in
/-- Results: a struct of seven cells, and a value. -/
theorem res_field2 {fn : Func} {a t : Tmp} (hr : fn.results = #[ResultVar.cell a 80, ResultVar.tmp t]) (tmps : Array Value) (g : Nat) (u : Value) (ha : tmps.getD a undef = .pointer (some ⟨g, 0, none⟩)) (hu : tmps.getD t undef = u) (w : World) (c0 c1 c2 c3 c4 c5 c6 : Value) (hb : Blk w g 80 #[c0, c1, c2, c3, c4, c5, c6]) :
    (results fn tmps).run Tryz.prog w = .ok (.tuple #[.agg #[c0, c1, c2, c3, c4, c5, c6], u]) w := by
  obtain ⟨y0, y1, y2, y3, y4, y5, y6, _⟩ := hb.seven
  have ha' : tmps[a]?.getD undef = .pointer (some ⟨g, 0, none⟩) := by simpa using ha
  have hu' : tmps[t]?.getD undef = u := by simpa using hu
  simp [results, go_sem, *]
/-- A field taken by the document: its list lies in new memory. -/
def FTakePost (w : World) (b : List Nat) (r : Pk.Fd × Pk.St) (e : Ending) (w' : World) : Prop :=
  ∃ A c a, e = .returned (.tuple #[.agg (FdV.cells ⟨r.1, A, c⟩), .int .i64 a]) ∧ FdOk w' w'.heap.size ⟨r.1, A, c⟩ ∧ (∀ ad, A = some ad → w.heap.size ≤ ad.block) ∧ AtSt b a r.2 ∧ Grew w w'
theorem FTakePost.end {w w2 w3 : World} {b : List Nat} {r : Pk.Fd × Pk.St} {A : Option Addr} {c : Nat} {a : Int} (hk : r.1.kind < 256) (hn : Vi.I64 r.1.n) (hl : ∀ x ∈ r.1.l, Vi.I64 x)
    (ha : AtSt b a r.2) (hG : Grew w w2) (hrow : Row w2 w.heap.size 3 1 A r.1.l.length c (intCellsP r.1.l)) (F : Nat → Prop) (hF : ∀ k, F k → w.heap.size ≤ k ∧ A ≠ some ⟨k, 0, none⟩) (h3 : Kept F w2 w3) :
    FTakePost w b r (.returned (.tuple #[.agg (FdV.cells ⟨r.1, A, c⟩), .int .i64 a])) w3 := by
  have hr3 := hrow.kept h3 (fun q hq hf => (hF q hf).2 hq)
  exact ⟨A, c, a, rfl, ⟨hk, hn, Row.ints hr3 hl, hrow.cases.2.1, hrow.cases.2.2.1, fun ad e _ => (hr3.in ad e).2⟩, fun ad e => (hr3.in ad e).1, ha, h3.grew hG (fun k hf => (hF k hf).1)⟩
theorem nil_row (w : World) (B : Nat) (e : TypeId) : Row w B e 1 none ([] : List Int).length 0 (intCellsP []) := Row.nil _ _ _ _
set_option maxRecDepth 100000 in
set_option maxHeartbeats 4000000 in
theorem rtake0_c (A : Option Addr) (c : Nat) (b : List Nat) (at_ : Int) (st : Pk.St) (n : Int) (l : List Int) (s : ByteArray) (many lo hi : Int) (A1 : Option Addr) (c1 : Nat) (w : World) (hb : BytesAt w w.heap.size A b) (hc : b.length ≤ c) (hm : c ≤ 9223372036854775807) (ha : AtSt b at_ st) :
    Calls Tryz.prog 35 #[.slice A b.length c, .int .i64 at_, .agg #[.int .u8 0, .int .i64 n, .slice A1 l.length c1, .string s, .int .i64 many, .int .i64 lo, .int .i64 hi]] w (FTakePost w b (Pk.take st ⟨0, n, l, s, many, lo, hi⟩)) := by
  have HT := hid (show Pk.take st ⟨0, n, l, s, many, lo, hi⟩ = ({ kind := 0, n := (Pk.int st lo hi).1, l := [], s := ⟨#[]⟩, many := 0, lo := 0, hi := 0 }, (Pk.int st lo hi).2) from rfl)
  have C1 := hid (fun (w1 : World) (hg : Grew w w1) => rnum_c A c b at_ lo hi st w1 (hb.grew hg) hc hm ha)
  have HI := hid (int_i64 st lo hi)
  generalize Pk.int st lo hi = r at *
  generalize Pk.take st ⟨0, n, l, s, many, lo, hi⟩ = res at *
  generalize l.length = len1 at *
  generalize hlen : b.length = len at *
  clear hb hc hm ha hlen
  have hb3 := boxes3 w 80 #[.int .u8 0, .int .i64 n, .slice A1 len1 c1, .string s, .int .i64 many, .int .i64 lo, .int .i64 hi] #[.int .u8 0, .int .i64 0, .slice none 0 0, .string ⟨#[]⟩, .int .i64 0, .int .i64 0, .int .i64 0] #[.int .u8 0, .int .i64 0, .slice none 0 0, .string ⟨#[]⟩, .int .i64 0, .int .i64 0, .int .i64 0]
  have HB3 := hid hb3
  clear hb3
  go_enter Tryz.func35, Tryz.ntmps35
  go_wp2_with fail
  obtain ⟨wb, hwb⟩ : ∃ wb, wb = ((w.alloc (.cells #[.int .u8 0, .int .i64 n, .slice A1 len1 c1, .string s, .int .i64 many, .int .i64 lo, .int .i64 hi] 80)).alloc (.cells #[.int .u8 0, .int .i64 0, .slice none 0 0, .string ⟨#[]⟩, .int .i64 0, .int .i64 0, .int .i64 0] 80)).alloc (.cells #[.int .u8 0, .int .i64 0, .slice none 0 0, .string ⟨#[]⟩, .int .i64 0, .int .i64 0, .int .i64 0] 80) := ⟨_, rfl⟩
  rw [← hwb] at HB3 ⊢
  clear hwb
  refine (C1.out wb HB3.out.1).mono ?_
  rintro e w2 ⟨a', rfl, hat, hg⟩
  have HBY := hid (HB3.out.2.2.1.grew hg)
  obtain ⟨y0, y1, y2, y3, y4, y5, y6, yf⟩ := HBY.out.seven
  obtain ⟨z0, z1, z2, z3, z4, z5, z6, zf⟩ := (HB3.out.2.2.2.grew hg).seven
  have HRK := hid (HB3.out.1.trans hg)
  have HAT := hid hat
  clear hg hat C1
  go_wp2_with fail
  refine bodyPost_ret (v := .tuple #[.agg #[.int .u8 0, .int .i64 r.1, .slice none 0 0, .string ⟨#[]⟩, .int .i64 0, .int .i64 0, .int .i64 0], .int .i64 a']) ?_ rfl ?_
  · refine res_field2 Tryz.results35 _ (w.heap.size + 1) _ ?_ ?_ _ _ _ _ _ _ _ _ ?_
    · rfl
    · rfl
    · refine Blk.put7 (a0 := .int .u8 0) (a1 := .int .i64 0) (a2 := .slice none 0 0) (a3 := .string ⟨#[]⟩) (a4 := .int .i64 0) (a5 := .int .i64 0) (a6 := .int .i64 0) ?_ _ _ _ _ _ _ _
      exact HBY.out.far (by simp) _
  rw [HT.out]
  refine FTakePost.end (A := none) (c := 0) (by show 0 < 256; decide) HI.out (by simp) HAT.out HRK.out (nil_row _ _ _) (fun k => k = w.heap.size + 1 ∨ k = w.heap.size + 1 + 1) (fun k hk => ⟨by omega, by simp⟩) ?_
  refine kept7 ?_ (.inl rfl) _ _ _ _ _ _ _
  exact Kept.setCell (F := fun k => k = w.heap.size + 1 ∨ k = w.heap.size + 1 + 1) (Kept.refl _ _) (fun _ => .inr rfl) _
set_option maxRecDepth 100000 in
set_option maxHeartbeats 4000000 in
theorem rtakeX_c (A : Option Addr) (c : Nat) (b : List Nat) (at_ : Int) (st : Pk.St) (kind : Nat) (h0 : kind ≠ 0) (hk : kind < 256) (n : Int) (l : List Int) (s : ByteArray) (many lo hi : Int) (A1 : Option Addr) (c1 : Nat) (w : World) (hb : BytesAt w w.heap.size A b) (hc : b.length ≤ c) (hm : c ≤ 9223372036854775807) (ha : AtSt b at_ st) (hbad : (Pk.count st many).2 = none) (res : Pk.Fd × Pk.St) (hres : res = ({ kind := kind, n := 0, l := [], s := ⟨#[]⟩, many := 0, lo := 0, hi := 0 }, none)) :
    Calls Tryz.prog 35 #[.slice A b.length c, .int .i64 at_, .agg #[.int .u8 ((kind : Nat) : Int), .int .i64 n, .slice A1 l.length c1, .string s, .int .i64 many, .int .i64 lo, .int .i64 hi]] w (FTakePost w b res) := by
  have HT := hid hres
  have C1 := hid (fun (w1 : World) (hg : Grew w w1) => rnum_c A c b at_ 0 many st w1 (hb.grew hg) hc hm ha)
  have HX := hid (show (Pk.int st 0 many).2 = none ∨ ((Pk.rest (Pk.int st 0 many).2).length : Int) < (Pk.int st 0 many).1 by
    rw [count_eq] at hbad
    split at hbad
    · rename_i h; exact .inr h
    · exact .inl hbad)
  have HI := hid (int_i64 st 0 many)
  have t0 : ((kind : Int) == 0) = false := by rw [beq_eq_false_iff_ne]; omega
  generalize Pk.int st 0 many = r at *
  obtain ⟨m, s1⟩ := r
  generalize l.length = len1 at *
  obtain ⟨len, hlen⟩ : ∃ len, len = b.length := ⟨_, rfl⟩
  rw [← hlen] at C1 hc ⊢
  have HLen := hid hlen
  have HK := hid hk
  clear hb ha hlen hres hbad h0 hk
  have hb3 := boxes3 w 80 #[.int .u8 ((kind : Nat) : Int), .int .i64 n, .slice A1 len1 c1, .string s, .int .i64 many, .int .i64 lo, .int .i64 hi] #[.int .u8 0, .int .i64 0, .slice none 0 0, .string ⟨#[]⟩, .int .i64 0, .int .i64 0, .int .i64 0] #[.int .u8 ((kind : Nat) : Int), .int .i64 0, .slice none 0 0, .string ⟨#[]⟩, .int .i64 0, .int .i64 0, .int .i64 0]
  have HB3 := hid hb3
  clear hb3
  go_enter Tryz.func35, Tryz.ntmps35
  go_wp2_with fail
  obtain ⟨wb, hwb⟩ : ∃ wb, wb = ((w.alloc (.cells #[.int .u8 ((kind : Nat) : Int), .int .i64 n, .slice A1 len1 c1, .string s, .int .i64 many, .int .i64 lo, .int .i64 hi] 80)).alloc (.cells #[.int .u8 0, .int .i64 0, .slice none 0 0, .string ⟨#[]⟩, .int .i64 0, .int .i64 0, .int .i64 0] 80)).alloc (.cells #[.int .u8 ((kind : Nat) : Int), .int .i64 0, .slice none 0 0, .string ⟨#[]⟩, .int .i64 0, .int .i64 0, .int .i64 0] 80) := ⟨_, rfl⟩
  rw [← hwb] at HB3 ⊢
  clear hwb
  refine (C1.out wb HB3.out.1).mono ?_
  rintro e w2 ⟨a', rfl, hat, hg⟩
  have HBY := hid (HB3.out.2.2.1.grew hg)
  obtain ⟨y0, y1, y2, y3, y4, y5, y6, yf⟩ := HBY.out.seven
  obtain ⟨z0, z1, z2, z3, z4, z5, z6, zf⟩ := (HB3.out.2.2.2.grew hg).seven
  have HRK := hid (HB3.out.1.trans hg)
  clear hg C1
  rcases hat with ⟨rfl, h2⟩ | ⟨k, hk1, rfl, h2⟩
  · clear h2 HX
    go_wp2_with fail
    refine bodyPost_ret (v := .tuple #[.agg #[.int .u8 ((kind : Nat) : Int), .int .i64 0, .slice none 0 0, .string ⟨#[]⟩, .int .i64 0, .int .i64 0, .int .i64 0], .int .i64 (-1)]) ?_ rfl ?_
    · refine res_field2 Tryz.results35 _ (w.heap.size + 1) _ ?_ ?_ _ _ _ _ _ _ _ _ ?_
      · rfl
      · rfl
      · refine Blk.put7 (a0 := .int .u8 0) (a1 := .int .i64 0) (a2 := .slice none 0 0) (a3 := .string ⟨#[]⟩) (a4 := .int .i64 0) (a5 := .int .i64 0) (a6 := .int .i64 0) ?_ _ _ _ _ _ _ _
        exact HBY.out
    rw [HT.out]
    refine FTakePost.end (A := none) (c := 0) HK.out (by show Vi.I64 0; unfold Vi.I64; omega) (by simp) (.inl ⟨rfl, rfl⟩) HRK.out (nil_row _ _ _) (fun k => k = w.heap.size + 1 ∨ k = w.heap.size + 1 + 1) (fun k hk => ⟨by omega, by simp⟩) ?_
    refine kept7 ?_ (.inl rfl) _ _ _ _ _ _ _
    exact Kept.refl _ _
  · have t1 : ¬ (k : Int) < 0 := by omega
    have hx := HX.out
    simp only at h2 hx
    rw [h2] at hx
    have hx2 := hx.resolve_left (by simp)
    simp only [Pk.rest, Option.getD_some, List.length_drop] at hx2
    have t2 : (len : Int) - k < m := by have := HLen.out; omega
    have t3 : (k : Int) ≤ len := by have := HLen.out; omega
    clear hx hx2 h2 HX hk1
    go_wp2_with fail
    refine bodyPost_ret (v := .tuple #[.agg #[.int .u8 ((kind : Nat) : Int), .int .i64 0, .slice none 0 0, .string ⟨#[]⟩, .int .i64 0, .int .i64 0, .int .i64 0], .int .i64 (-1)]) ?_ rfl ?_
    · refine res_field2 Tryz.results35 _ (w.heap.size + 1) _ ?_ ?_ _ _ _ _ _ _ _ _ ?_
      · rfl
      · rfl
      · refine Blk.put7 (a0 := .int .u8 0) (a1 := .int .i64 0) (a2 := .slice none 0 0) (a3 := .string ⟨#[]⟩) (a4 := .int .i64 0) (a5 := .int .i64 0) (a6 := .int .i64 0) ?_ _ _ _ _ _ _ _
        exact HBY.out
    rw [HT.out]
    refine FTakePost.end (A := none) (c := 0) HK.out (by show Vi.I64 0; unfold Vi.I64; omega) (by simp) (.inl ⟨rfl, rfl⟩) HRK.out (nil_row _ _ _) (fun k => k = w.heap.size + 1 ∨ k = w.heap.size + 1 + 1) (fun k hk => ⟨by omega, by simp⟩) ?_
    refine kept7 ?_ (.inl rfl) _ _ _ _ _ _ _
    exact Kept.refl _ _
end Go.Proofs.YtjdgcgpidhljpaaGreatDoor
namespace Go.Proofs.YtjdgcgpidhljpaaGreatDoor
open Go.RowKit

set_option maxRecDepth 100000 in
set_option maxHeartbeats 4000000 in
theorem rtakeT_c (A : Option Addr) (c : Nat) (b : List Nat) (at_ : Int) (st : Pk.St) (kind : Nat) (h0 : kind ≠ 0) (h1 : kind ≠ 1) (hk : kind < 256) (n : Int) (l : List Int) (s : ByteArray) (many lo hi : Int) (A1 : Option Addr) (c1 : Nat) (w : World) (hb : BytesAt w w.heap.size A b) (hc : b.length ≤ c) (hm : c ≤ 9223372036854775807) (ha : AtSt b at_ st) (m : Nat) (r : List Nat) (hgood : Pk.count st many = ((m : Int), some r)) :
    Calls Tryz.prog 35 #[.slice A b.length c, .int .i64 at_, .agg #[.int .u8 ((kind : Nat) : Int), .int .i64 n, .slice A1 l.length c1, .string s, .int .i64 many, .int .i64 lo, .int .i64 hi]] w (FTakePost w b (Pk.take st ⟨kind, n, l, s, many, lo, hi⟩)) := by
  have HT := hid (show Pk.take st ⟨kind, n, l, s, many, lo, hi⟩ = ({ kind := kind, n := 0, l := [], s := Pk.strB (r.take m), many := 0, lo := 0, hi := 0 }, some (r.drop m)) by
    unfold Pk.take
    rw [if_neg h0, if_neg h1]
    unfold Pk.text
    rw [hgood]
    rfl)
  generalize Pk.take st ⟨kind, n, l, s, many, lo, hi⟩ = res at *
  have C1 := hid (fun (w1 : World) (hg : Grew w w1) => rnum_c A c b at_ 0 many st w1 (hb.grew hg) hc hm ha)
  have hmr := (Pk.count_range hgood).2.2
  have hint : Pk.int st 0 many = ((m : Int), some r) := by
    rw [count_eq] at hgood
    split at hgood
    · cases hgood
    · exact hgood
  rw [hint] at C1
  have t0 : ((kind : Int) == 0) = false := by rw [beq_eq_false_iff_ne]; omega
  have t1 : ((kind : Int) == 1) = false := by rw [beq_eq_false_iff_ne]; omega
  generalize l.length = len1 at *
  have HCV := hid (fun (k : Nat) (hr : r = b.drop k) (hkb : k ≤ b.length) (w1 : World) (hg : Grew w w1) => show (k < c → (convert 26 9 (.slice (A.map (·.add k)) m (c - k))).run Tryz.prog w1 = .ok (.string (Pk.strB (r.take m))) w1) ∧ (k = c → (convert 26 9 (.slice A 0 0)).run Tryz.prog w1 = .ok (.string (Pk.strB (r.take m))) w1) from by
    subst hr
    rw [List.length_drop] at hmr
    have hlt : ((b.drop k).take m).length = m := by rw [List.length_take, List.length_drop]; omega
    refine ⟨fun _ => ?_, fun hkc => ?_⟩
    · have hx : NumsAt .u8 w1 w1.heap.size (A.map (·.add k)) ((b.drop k).take m) := by
        refine NumsAt.take (fun hn => ?_) m
        rw [List.length_drop] at hn
        obtain ⟨ad, rfl, _⟩ := (hb.grew hg).2 (by omega)
        exact (NumsAt.of_bytes (hb.grew hg)).drop k (by rw [List.length_drop]; exact hn)
      have := conv6 (A.map (·.add k)) (c - k) ((b.drop k).take m) w1 hx
      rwa [hlt] at this
    · have h0 : m = 0 := by omega
      have hnil : (b.drop k).take m = [] := by rw [h0]; rfl
      rw [hnil]
      exact conv6 A 0 [] w1 (NumsAt.nil _ _ _ _))
  obtain ⟨len, hlen⟩ : ∃ len, len = b.length := ⟨_, rfl⟩
  rw [← hlen] at C1 hc HCV ⊢
  have HLen := hid hlen
  have HK := hid hk
  have HMR := hid hmr
  have hcm : c ≤ 9223372036854775807 := hm
  clear hb ha hlen hgood hint h0 h1 hk hmr
  have hb3 := boxes3 w 80 #[.int .u8 ((kind : Nat) : Int), .int .i64 n, .slice A1 len1 c1, .string s, .int .i64 many, .int .i64 lo, .int .i64 hi] #[.int .u8 0, .int .i64 0, .slice none 0 0, .string ⟨#[]⟩, .int .i64 0, .int .i64 0, .int .i64 0] #[.int .u8 ((kind : Nat) : Int), .int .i64 0, .slice none 0 0, .string ⟨#[]⟩, .int .i64 0, .int .i64 0, .int .i64 0]
  have HB3 := hid hb3
  clear hb3
  go_enter Tryz.func35, Tryz.ntmps35
  go_wp2_with fail
  obtain ⟨wb, hwb⟩ : ∃ wb, wb = ((w.alloc (.cells #[.int .u8 ((kind : Nat) : Int), .int .i64 n, .slice A1 len1 c1, .string s, .int .i64 many, .int .i64 lo, .int .i64 hi] 80)).alloc (.cells #[.int .u8 0, .int .i64 0, .slice none 0 0, .string ⟨#[]⟩, .int .i64 0, .int .i64 0, .int .i64 0] 80)).alloc (.cells #[.int .u8 ((kind : Nat) : Int), .int .i64 0, .slice none 0 0, .string ⟨#[]⟩, .int .i64 0, .int .i64 0, .int .i64 0] 80) := ⟨_, rfl⟩
  rw [← hwb] at HB3 ⊢
  clear hwb
  refine (C1.out wb HB3.out.1).mono ?_
  rintro e w2 ⟨a', rfl, hat, hg⟩
  have x0 := (HB3.out.2.1.grew hg).seven.1
  have HBY := hid (HB3.out.2.2.1.grew hg)
  obtain ⟨y0, y1, y2, y3, y4, y5, y6, yf⟩ := HBY.out.seven
  obtain ⟨z0, z1, z2, z3, z4, z5, z6, zf⟩ := (HB3.out.2.2.2.grew hg).seven
  have HRK := hid (HB3.out.1.trans hg)
  clear hg C1
  obtain ⟨k, hk1, rfl, h2⟩ := hat.resolve_left (fun h => by cases h.2)
  have hr : r = b.drop k := Option.some.inj h2
  have hmk : m ≤ len - k := by have := HMR.out; rw [hr, List.length_drop, ← HLen.out] at this; omega
  rw [← HLen.out] at hk1
  have hcv := HCV.out k hr hk1 w2 HRK.out
  have HRD := hid hr
  have p1 : ¬ (k : Int) < 0 := by omega
  have p2 : ¬ (len : Int) - k < m := by omega
  have p3 : (k : Int) ≤ len := by omega
  have p4 : (k : Int) + m ≤ c := by omega
  have p5 : 0 ≤ (k : Int) + m := by omega
  have p6 : (k : Int) + m ≤ 9223372036854775807 := by omega
  have p7 : (k : Int) ≤ (k : Int) + m := by omega
  have HAT := hid (show AtSt b ((k : Int) + m) (some (r.drop m)) from .inr ⟨k + m, by rw [← HLen.out]; omega, by push_cast; rfl, by rw [hr, List.drop_drop]⟩)
  clear hr h2 hcm HCV
  rcases (by omega : k = c ∨ k < c) with hcap | hcap
  · have hcv1 := hcv.2 hcap
    clear hcv
    obtain rfl := hcap
    have hm0 : m = 0 := by omega
    obtain rfl := hm0
    go_wp2_with fail
    have HT2 := HT
    clear HT
    have HT := hid (show res = ({ kind := kind, n := 0, l := [], s := Pk.strB [], many := 0, lo := 0, hi := 0 }, some (r.drop 0)) by rw [HT2.out]; rfl)
    have HAT2 := hid (show AtSt b (k : Int) (some (r.drop 0)) by simpa using HAT.out)
    refine bodyPost_ret (v := .tuple #[.agg #[.int .u8 ((kind : Nat) : Int), .int .i64 0, .slice none 0 0, .string (Pk.strB []), .int .i64 0, .int .i64 0, .int .i64 0], .int .i64 (k : Int)]) ?_ rfl ?_
    · refine res_field2 Tryz.results35 _ (w.heap.size + 1) _ ?_ ?_ _ _ _ _ _ _ _ _ ?_
      · rfl
      · rfl
      · refine Blk.put7 (a0 := .int .u8 0) (a1 := .int .i64 0) (a2 := .slice none 0 0) (a3 := .string ⟨#[]⟩) (a4 := .int .i64 0) (a5 := .int .i64 0) (a6 := .int .i64 0) ?_ _ _ _ _ _ _ _
        exact HBY.out.far (by simp) _
    rw [HT.out]
    refine FTakePost.end (A := none) (c := 0) HK.out (by show Vi.I64 0; unfold Vi.I64; omega) (by simp) HAT2.out HRK.out (nil_row _ _ _) (fun k => k = w.heap.size + 1 ∨ k = w.heap.size + 1 + 1) (fun k hk => ⟨by omega, by simp⟩) ?_
    refine kept7 ?_ (.inl rfl) _ _ _ _ _ _ _
    exact Kept.setCell (F := fun k => k = w.heap.size + 1 ∨ k = w.heap.size + 1 + 1) (Kept.refl _ _) (fun _ => .inr rfl) _
  · have p8 : ¬ k = c := by omega
    have hcv1 := hcv.1 hcap
    clear hcv
    go_wp2_with fail
    refine bodyPost_ret (v := .tuple #[.agg #[.int .u8 ((kind : Nat) : Int), .int .i64 0, .slice none 0 0, .string (Pk.strB (r.take m)), .int .i64 0, .int .i64 0, .int .i64 0], .int .i64 ((k : Int) + m)]) ?_ rfl ?_
    · refine res_field2 Tryz.results35 _ (w.heap.size + 1) _ ?_ ?_ _ _ _ _ _ _ _ _ ?_
      · rfl
      · rfl
      · refine Blk.put7 (a0 := .int .u8 0) (a1 := .int .i64 0) (a2 := .slice none 0 0) (a3 := .string ⟨#[]⟩) (a4 := .int .i64 0) (a5 := .int .i64 0) (a6 := .int .i64 0) ?_ _ _ _ _ _ _ _
        exact HBY.out.far (by simp) _
    rw [HT.out]
    refine FTakePost.end (A := none) (c := 0) HK.out (by show Vi.I64 0; unfold Vi.I64; omega) (by simp) HAT.out HRK.out (nil_row _ _ _) (fun k => k = w.heap.size + 1 ∨ k = w.heap.size + 1 + 1) (fun k hk => ⟨by omega, by simp⟩) ?_
    refine kept7 ?_ (.inl rfl) _ _ _ _ _ _ _
    exact Kept.setCell (F := fun k => k = w.heap.size + 1 ∨ k = w.heap.size + 1 + 1) (Kept.refl _ _) (fun _ => .inr rfl) _
end Go.Proofs.YtjdgcgpidhljpaaGreatDoor
namespace Go.Proofs.YtjdgcgpidhljpaaGreatDoor
open Go.RowKit

/-- What the loop of Take keeps. -/
def TkLoop (w wb : World) (b : List Nat) (m : Nat) (r0 : List Nat) (lo hi : Int) (X Z : Array Value) (i : Nat) (a : Int) (wr : World) : Prop :=
  ∃ A3 c3 L, Blk wr w.heap.size 80 X ∧ Blk wr (w.heap.size + 1) 80 Z ∧
    Blk wr (w.heap.size + 1 + 1) 80 #[.int .u8 1, .int .i64 0, .slice A3 i c3, .string ⟨#[]⟩, .int .i64 0, .int .i64 0, .int .i64 0] ∧
    Row wr wb.heap.size 3 1 A3 i c3 (intCellsP L) ∧ L.length = i ∧ (∀ x ∈ L, Vi.I64 x) ∧ Kept (· = w.heap.size + 1 + 1) wb wr ∧
    ((a = -1 ∧ Pk.many m r0 lo hi = none) ∨ ∃ r, AtSt b a (some r) ∧ Pk.many m r0 lo hi = (Pk.many (m - i) r lo hi).map (fun y => (L ++ y.1, y.2)))

set_option maxRecDepth 100000 in
set_option maxHeartbeats 4000000 in
theorem rtake1_c (A : Option Addr) (c : Nat) (b : List Nat) (at_ : Int) (st : Pk.St) (n : Int) (l : List Int) (s : ByteArray) (many lo hi : Int) (A1 : Option Addr) (c1 : Nat) (w : World) (hb : BytesAt w w.heap.size A b) (hc : b.length ≤ c) (hm : c ≤ 9223372036854775807) (hbl : b.length ≤ 1000000000) (ha : AtSt b at_ st) (m : Nat) (r : List Nat) (hgood : Pk.count st many = ((m : Int), some r)) :
    Calls Tryz.prog 35 #[.slice A b.length c, .int .i64 at_, .agg #[.int .u8 1, .int .i64 n, .slice A1 l.length c1, .string s, .int .i64 many, .int .i64 lo, .int .i64 hi]] w (FTakePost w b (Pk.take st ⟨1, n, l, s, many, lo, hi⟩)) := by
  have HT := hid (show Pk.take st ⟨1, n, l, s, many, lo, hi⟩ = (match Pk.many m r lo hi with | some (l', r') => ({ kind := 1, n := 0, l := l', s := ⟨#[]⟩, many := 0, lo := 0, hi := 0 }, some r') | none => ({ kind := 1, n := 0, l := [], s := ⟨#[]⟩, many := 0, lo := 0, hi := 0 }, none)) by
    have e0 : Pk.take st ⟨1, n, l, s, many, lo, hi⟩ = ({ kind := 1, n := 0, l := (Pk.ints st many lo hi).1, s := ⟨#[]⟩, many := 0, lo := 0, hi := 0 }, (Pk.ints st many lo hi).2) := rfl
    have e1 : Pk.ints st many lo hi = match Pk.many m r lo hi with | some (l, r') => (l, some r') | none => ([], none) := by
      unfold Pk.ints
      rw [hgood]
      rfl
    rw [e0, e1]
    cases Pk.many m r lo hi <;> rfl)
  generalize Pk.take st ⟨1, n, l, s, many, lo, hi⟩ = res at *
  have CN := hid (fun (a : Int) (r1 : List Nat) (h : AtSt b a (some r1)) (w1 : World) (hg : Grew w w1) => rnum_c A c b a lo hi (some r1) w1 (hb.grew hg) hc hm h)
  have C1 := hid (fun (w1 : World) (hg : Grew w w1) => rnum_c A c b at_ 0 many st w1 (hb.grew hg) hc hm ha)
  have hmr := (Pk.count_range hgood).2.2
  have hint : Pk.int st 0 many = ((m : Int), some r) := by
    rw [count_eq] at hgood
    split at hgood
    · cases hgood
    · exact hgood
  rw [hint] at C1
  generalize l.length = len1 at *
  obtain ⟨len, hlen⟩ : ∃ len, len = b.length := ⟨_, rfl⟩
  rw [← hlen] at C1 CN hc ⊢
  have hbl' : len ≤ 1000000000 := by omega
  have HLen := hid hlen
  have HMR := hid hmr
  clear hb ha hlen hgood hint hmr hbl hm hc
  have hb3 := boxes3 w 80 #[.int .u8 1, .int .i64 n, .slice A1 len1 c1, .string s, .int .i64 many, .int .i64 lo, .int .i64 hi] #[.int .u8 0, .int .i64 0, .slice none 0 0, .string ⟨#[]⟩, .int .i64 0, .int .i64 0, .int .i64 0] #[.int .u8 1, .int .i64 0, .slice none 0 0, .string ⟨#[]⟩, .int .i64 0, .int .i64 0, .int .i64 0]
  have HB3 := hid hb3
  clear hb3
  go_enter Tryz.func35, Tryz.ntmps35
  go_wp2_with fail
  obtain ⟨wb, hwb⟩ : ∃ wb, wb = ((w.alloc (.cells #[.int .u8 1, .int .i64 n, .slice A1 len1 c1, .string s, .int .i64 many, .int .i64 lo, .int .i64 hi] 80)).alloc (.cells #[.int .u8 0, .int .i64 0, .slice none 0 0, .string ⟨#[]⟩, .int .i64 0, .int .i64 0, .int .i64 0] 80)).alloc (.cells #[.int .u8 1, .int .i64 0, .slice none 0 0, .string ⟨#[]⟩, .int .i64 0, .int .i64 0, .int .i64 0] 80) := ⟨_, rfl⟩
  rw [← hwb] at HB3 ⊢
  clear hwb
  refine (C1.out wb HB3.out.1).mono ?_
  rintro e w2 ⟨a', rfl, hat, hg⟩
  obtain ⟨x0, _, _, _, x4, x5, x6, _⟩ := (HB3.out.2.1.grew hg).seven
  obtain ⟨z0, z1, z2, z3, z4, z5, z6, zf⟩ := (HB3.out.2.2.2.grew hg).seven
  have H0 := hid (show TkLoop w wb b m r lo hi #[.int .u8 1, .int .i64 n, .slice A1 len1 c1, .string s, .int .i64 many, .int .i64 lo, .int .i64 hi] #[.int .u8 0, .int .i64 0, .slice none 0 0, .string ⟨#[]⟩, .int .i64 0, .int .i64 0, .int .i64 0] 0 a' w2 from ⟨none, 0, [], HB3.out.2.1.grew hg, HB3.out.2.2.1.grew hg, HB3.out.2.2.2.grew hg, Row.nil _ _ _ _, rfl, by simp, .of_grew hg, .inr ⟨r, hat, by simp⟩⟩)
  have HRK := hid (HB3.out.1.trans hg)
  clear hg C1
  obtain ⟨k, hk1, rfl, h2⟩ := hat.resolve_left (fun h => by cases h.2)
  have hr : r = b.drop k := Option.some.inj h2
  have hmk : m ≤ len - k := by have := HMR.out; rw [hr, List.length_drop, ← HLen.out] at this; omega
  rw [← HLen.out] at hk1
  have p1 : ¬ (k : Int) < 0 := by omega
  have p2 : ¬ (len : Int) - k < m := by omega
  have p3 : (k : Int) ≤ len := by omega
  have hmb : m ≤ 1000000000 := by omega
  clear hr h2
  go_wp2_with fail
  clear x0 x4 x5 x6 z0 z1 z2 z3 z4 z5 z6 zf
  go_loopw [1, 10] (fun s1 s10 wr => ∃ (i : Nat) (a : Int), s1 = .int .i64 a ∧ s10 = .int .i64 ((i : Nat) : Int) ∧ i ≤ m ∧ -1 ≤ a ∧ a ≤ 1000000000 ∧ Hid (TkLoop w wb b m r lo hi #[.int .u8 1, .int .i64 n, .slice A1 len1 c1, .string s, .int .i64 many, .int .i64 lo, .int .i64 hi] #[.int .u8 0, .int .i64 0, .slice none 0 0, .string ⟨#[]⟩, .int .i64 0, .int .i64 0, .int .i64 0] i a wr)) (fun _ s10 _ => m - (intOf s10).toNat)
  case atStart => exact ⟨0, k, rfl, rfl, Nat.zero_le _, by omega, by omega, H0⟩
  case round =>
    clear H0 HRK p1 p2 p3
    obtain ⟨i, a, rfl, rfl, hi2, ha0, ha1, H⟩ := hrel
    obtain ⟨A3, c3, L, hX, hZ, hO, hRow, hLl, hLi, hK, hD⟩ := H.out
    have hG1 := hK.grew HB3.out.1 (fun q e => by omega)
    by_cases hlt : i < m ∧ 0 ≤ a
    · obtain ⟨h1, h2⟩ := hlt
      have f1 : (i : Int) < m := by omega
      obtain ⟨r1, hA1, hM1⟩ := hD.resolve_left (fun h => by omega)
      obtain ⟨j, hj⟩ : ∃ j, m - i = j + 1 := ⟨m - i - 1, by omega⟩
      have hj2 : m - (i + 1) = j := by omega
      have CI := hid (CN.out a r1 hA1 wr hG1)
      have HI := hid (int_i64 (some r1) lo hi)
      have HD2 := hid (show ∀ a2, AtSt b a2 (Pk.int (some r1) lo hi).2 → ((a2 = -1 ∧ Pk.many m r lo hi = none) ∨ ∃ r2, AtSt b a2 (some r2) ∧ Pk.many m r lo hi = (Pk.many (m - (i + 1)) r2 lo hi).map (fun y => ((L ++ [(Pk.int (some r1) lo hi).1]) ++ y.1, y.2))) from fun a2 h => by
        unfold Pk.int at h ⊢
        rw [Option.bind_some] at h ⊢
        rw [hM1, hj, hj2]
        cases hnum : Pk.num r1 lo hi with
        | none =>
          rw [hnum] at h
          refine .inl ⟨?_, ?_⟩
          · rcases h with ⟨h, _⟩ | ⟨_, _, _, h⟩
            · exact h
            · cases h
          · unfold Pk.many
            rw [hnum]
            rfl
        | some x =>
          rw [hnum] at h
          obtain ⟨x1, x2⟩ := x
          refine .inr ⟨x2, h, ?_⟩
          conv => lhs; unfold Pk.many
          rw [hnum, Option.bind_some, Option.map_map]
          congr 1
          funext y
          simp)
      generalize Pk.int (some r1) lo hi = q at *
      obtain ⟨x0, _, _, _, x4, x5, x6, _⟩ := hX.seven
      obtain ⟨z0, z1, z2, z3, z4, z5, z6, zf⟩ := hO.seven
      have HX := hid hX
      have HZ := hid hZ
      have HO := hid hO
      have HRow := hid hRow
      have HLL := hid (And.intro hLl hLi)
      have HK := hid hK
      have HG1 := hid hG1
      clear hX hZ hO hRow hLl hLi hK hG1 hD hM1 hj hj2 hA1 H z0 z1 z3 z4 z5 z6
      go_wp2_with fail
      refine CI.out.mono ?_
      rintro e w3 ⟨a2, rfl, hat2, hg3⟩
      have hz2 := ((HO.out.grew hg3).seven).2.2.1
      have hzf := ((HO.out.grew hg3).seven).2.2.2.2.2.2.2
      have HAT2 := hid hat2
      have hsz3 := Nat.le_trans HK.out.size hg3.below.size
      have HRow3 := hid (HRow.out.grew hg3)
      have HG3 := hid hg3
      have ha2 : -1 ≤ a2 ∧ a2 ≤ 1000000000 := by
        rcases hat2 with ⟨rfl, _⟩ | ⟨k2, hk2, rfl, _⟩
        · omega
        · rw [← HLen.out] at hk2; omega
      obtain ⟨ha2a, ha2b⟩ := ha2
      have hblk : w.heap.size + 1 + 1 < w3.heap.size := (HO.out.grew hg3).lt
      clear hat2 hg3 CI z2 zf x4 x5 x6 x0
      go_upto_region 11 with (at_builtin; refine wpList_pushR (.int .i64 0) 8 w3 rfl _ _ 78 3 rfl Tryz.underlying78 v6_int rfl wb.heap.size hsz3 A3 i c3 (intCellsP L) rfl HRow3.out _ rfl rfl _ rfl (by omega) (by omega) ?_; rintro A4 c4 w4 hR4 hK4 hT4; have hz4 := hz2; have hat4 : ∀ g, AtRow A3 g → wb.heap.size ≤ g := (fun g hg => by (obtain ⟨ad, h5, h6⟩ := hg; rw [← h6]; exact (HRow3.out.in ad h5).1)); have hblt : w.heap.size + 1 + 1 < wb.heap.size := HB3.out.2.2.2.lt; have hB4 := (HO.out.grew HG3.out).kept hK4 (fun h => by have := hat4 _ h; omega); have hc4 := hB4.seven.2.2.1; have hf4 := hB4.seven.2.2.2.2.2.2.2)
      have hF4 : Kept (fun g => wb.heap.size ≤ g) w3 w4 := hK4.mono (fun g _ h => hat4 g h)
      have hst : Kept (· = w.heap.size + 1 + 1) w4 (w4.setCell ⟨w.heap.size + 1 + 1, 2, none⟩ (.slice A4 (i + 1) c4)) := Kept.setCell (F := (· = w.heap.size + 1 + 1)) (Kept.refl _ _) (p := ⟨w.heap.size + 1 + 1, 2, none⟩) (fun _ => rfl) _
      have hle : ∀ g, g < wb.heap.size → ¬ wb.heap.size ≤ g := fun g h h2 => by omega
      have HEnd := hid (show TkLoop w wb b m r lo hi #[.int .u8 1, .int .i64 n, .slice A1 len1 c1, .string s, .int .i64 many, .int .i64 lo, .int .i64 hi] #[.int .u8 0, .int .i64 0, .slice none 0 0, .string ⟨#[]⟩, .int .i64 0, .int .i64 0, .int .i64 0] (i + 1) a2 (w4.setCell ⟨w.heap.size + 1 + 1, 2, none⟩ (.slice A4 (i + 1) c4)) from ⟨A4, c4, L ++ [q.1],
        ((HX.out.grew HG3.out).kept hF4 (hle _ (by omega))).kept hst (by omega),
        ((HZ.out.grew HG3.out).kept hF4 (hle _ (by omega))).kept hst (by omega),
        by have := (((HO.out.grew HG3.out).kept hF4 (hle _ (by omega))).put 2 (.slice A4 (i + 1) c4)); simpa using this,
        by
          have := hR4.kept hst (fun g hg e => by
            have := (hR4.in _ hg).1
            simp only at this
            omega)
          rwa [show intCellsP L ++ [.int .i64 q.1] = intCellsP (L ++ [q.1]) by simp [intCellsP]] at this,
        by rw [List.length_append, HLL.out.1]; rfl,
        (fun y hy => by
          rcases List.mem_append.1 hy with hy | hy
          · exact HLL.out.2 y hy
          · rw [List.mem_singleton.1 hy]; exact HI.out),
        ((HK.out.trans (.of_grew HG3.out)).next hF4 (fun g hg h => by omega)).trans hst,
        HD2.out a2 HAT2.out⟩)
      clear hz4 hz2 hzf hR4 hK4 hT4 hB4 hF4 hst hle hat4 HX HZ HO HRow HRow3 HLL HK HG1 HG3 HD2 HAT2
      go_wp2_with fail
      go_roundw
      case rel => exact ⟨i + 1, a2, rfl, by go_num, by omega, ha2a, ha2b, HEnd⟩
      case measure => simp [intOf]; omega
    · have HX := hid hX
      have HG1 := hid hG1
      have HRow := hid hRow
      have HLL := hid (And.intro hLl hLi)
      have HBY := hid hZ
      have HRK := hid hG1
      have hblt : w.heap.size + 1 + 1 < wb.heap.size := HB3.out.2.2.2.lt
      obtain ⟨y0, y1, y2, y3, y4, y5, y6, yf⟩ := hZ.seven
      obtain ⟨z0, z1, z2, z3, z4, z5, z6, zf⟩ := hO.seven
      rcases hD with ⟨rfl, hnone⟩ | ⟨r1, hA1, hM1⟩
      · have HT2 := hid (show res = ({ kind := 1, n := 0, l := [], s := ⟨#[]⟩, many := 0, lo := 0, hi := 0 }, none) by rw [HT.out, hnone])
        clear HT
        have HT := HT2
        clear hX hZ hO hRow hLl hLi hK hG1 hnone H HT2
        by_cases f1 : (i : Int) < m
        all_goals
          go_wp2_with fail
          refine bodyPost_ret (v := .tuple #[.agg #[.int .u8 1, .int .i64 0, .slice none 0 0, .string ⟨#[]⟩, .int .i64 0, .int .i64 0, .int .i64 0], .int .i64 (-1)]) ?_ rfl ?_
          · refine res_field2 Tryz.results35 _ (w.heap.size + 1) _ ?_ ?_ _ _ _ _ _ _ _ _ ?_
            · rfl
            · rfl
            · refine Blk.put7 (a0 := .int .u8 0) (a1 := .int .i64 0) (a2 := .slice none 0 0) (a3 := .string ⟨#[]⟩) (a4 := .int .i64 0) (a5 := .int .i64 0) (a6 := .int .i64 0) ?_ _ _ _ _ _ _ _
              exact HBY.out.far (by simp) _
          rw [HT.out]
          refine FTakePost.end (A := none) (c := 0) (by show 1 < 256; decide) (by show Vi.I64 0; unfold Vi.I64; omega) (by simp) (.inl ⟨rfl, rfl⟩) HRK.out (nil_row _ _ _) (fun k => k = w.heap.size + 1 ∨ k = w.heap.size + 1 + 1) (fun k hk => ⟨by omega, by simp⟩) ?_
          refine kept7 ?_ (.inl rfl) _ _ _ _ _ _ _
          exact Kept.setCell (F := fun k => k = w.heap.size + 1 ∨ k = w.heap.size + 1 + 1) (Kept.refl _ _) (fun _ => .inr rfl) _
      · have him : i = m := by
          have h0 : 0 ≤ a := by
            rcases hA1 with ⟨_, h⟩ | ⟨_, _, h, _⟩
            · cases h
            · omega
          omega
        subst him
        have HT2 := hid (show res = ({ kind := 1, n := 0, l := L, s := ⟨#[]⟩, many := 0, lo := 0, hi := 0 }, some r1) by
          rw [HT.out, hM1, Nat.sub_self]
          simp [Pk.many])
        clear HT
        have HT := HT2
        have HA1 := hid hA1
        have f1 : ¬ a < 0 := by
          rcases hA1 with ⟨_, h⟩ | ⟨_, _, h, _⟩
          · cases h
          · omega
        clear hX hZ hO hRow hLl hLi hK hG1 hM1 H HT2 hA1 hlt
        go_wp2_with fail
        refine bodyPost_ret (v := .tuple #[.agg #[.int .u8 1, .int .i64 0, .slice A3 i c3, .string ⟨#[]⟩, .int .i64 0, .int .i64 0, .int .i64 0], .int .i64 a]) ?_ rfl ?_
        · refine res_field2 Tryz.results35 _ (w.heap.size + 1) _ ?_ ?_ _ _ _ _ _ _ _ _ ?_
          · rfl
          · rfl
          · refine Blk.put7 (a0 := .int .u8 0) (a1 := .int .i64 0) (a2 := .slice none 0 0) (a3 := .string ⟨#[]⟩) (a4 := .int .i64 0) (a5 := .int .i64 0) (a6 := .int .i64 0) ?_ _ _ _ _ _ _ _
            exact HBY.out
        rw [HT.out]
        show FTakePost _ _ _ (.returned (.tuple #[.agg #[.int .u8 1, .int .i64 0, .slice A3 i c3, .string ⟨#[]⟩, .int .i64 0, .int .i64 0, .int .i64 0], .int .i64 a])) _
        rw [show (#[.int .u8 1, .int .i64 0, .slice A3 i c3, .string ⟨#[]⟩, .int .i64 0, .int .i64 0, .int .i64 0] : Array Value) = FdV.cells ⟨{ kind := 1, n := 0, l := L, s := ⟨#[]⟩, many := 0, lo := 0, hi := 0 }, A3, c3⟩ by unfold FdV.cells; simp only [HLL.out.1]; rfl]
        refine FTakePost.end (A := A3) (c := c3) (by show 1 < 256; decide) (by show Vi.I64 0; unfold Vi.I64; omega) HLL.out.2 HA1.out HRK.out (HLL.out.1 ▸ HRow.out.low HB3.out.1.below.size) (fun k => k = w.heap.size + 1 ∨ k = w.heap.size + 1 + 1) (fun k hk => ⟨by omega, fun e => by have := (HRow.out.in _ e).1; simp only at this; omega⟩) ?_
        refine kept7 ?_ (.inl rfl) _ _ _ _ _ _ _
        exact Kept.refl _ _
end Go.Proofs.YtjdgcgpidhljpaaGreatDoor
namespace Go.Proofs.YtjdgcgpidhljpaaGreatDoor
open Go.RowKit

theorem rtake_c (A : Option Addr) (c : Nat) (b : List Nat) (at_ : Int) (st : Pk.St) (v : FdV) (w : World) (hb : BytesAt w w.heap.size A b) (hc : b.length ≤ c) (hm : c ≤ 9223372036854775807) (hbl : b.length ≤ 1000000000) (ha : AtSt b at_ st) (hk : v.f.kind < 256) :
    Calls Tryz.prog 35 #[.slice A b.length c, .int .i64 at_, .agg v.cells] w (FTakePost w b (Pk.take st v.f)) := by
  obtain ⟨⟨kind, n, l, s, many, lo, hi⟩, A1, c1⟩ := v
  simp only at hk
  show Calls Tryz.prog 35 #[.slice A b.length c, .int .i64 at_, .agg #[.int .u8 ((kind : Nat) : Int), .int .i64 n, .slice A1 l.length c1, .string s, .int .i64 many, .int .i64 lo, .int .i64 hi]] w (FTakePost w b (Pk.take st ⟨kind, n, l, s, many, lo, hi⟩))
  by_cases h0 : kind = 0
  · subst h0
    exact rtake0_c A c b at_ st n l s many lo hi A1 c1 w hb hc hm ha
  · cases hcount : Pk.count st many with
    | mk m s1 =>
      cases s1 with
      | none =>
        have hz : m = 0 := by
          rw [count_eq] at hcount
          split at hcount
          · simp at hcount; exact hcount.symm
          · unfold Pk.int at hcount
            split at hcount
            · simp at hcount
            · simp at hcount; exact hcount.symm
        refine rtakeX_c A c b at_ st kind h0 hk n l s many lo hi A1 c1 w hb hc hm ha (by rw [hcount]) _ ?_
        unfold Pk.take
        rw [if_neg h0]
        by_cases h1 : kind = 1
        · subst h1
          rw [if_pos rfl]
          have : Pk.ints st many lo hi = ([], none) := by unfold Pk.ints; rw [hcount]
          simp only [this]
        · rw [if_neg h1]
          have : Pk.text st many = ([], none) := by unfold Pk.text; rw [hcount]
          simp only [this]
          rfl
      | some r =>
        have hr := (Pk.count_range hcount)
        obtain ⟨k, rfl⟩ : ∃ k : Nat, m = (k : Int) := ⟨m.toNat, by omega⟩
        by_cases h1 : kind = 1
        · subst h1
          exact rtake1_c A c b at_ st n l s many lo hi A1 c1 w hb hc hm hbl ha k r hcount
        · exact rtakeT_c A c b at_ st kind h0 h1 hk n l s many lo hi A1 c1 w hb hc hm ha k r hcount

theorem NumsAt.wide {k : IntKind} {w : World} {B B' : Nat} {A : Option Addr} {xs : List Nat} (h : NumsAt k w B A xs) (hB : B ≤ B') : NumsAt k w B' A xs := by
  intro hn
  obtain ⟨ad, e, hb, hc⟩ := h hn
  exact ⟨ad, e, Nat.lt_of_lt_of_le hb hB, hc⟩
end Go.Proofs.YtjdgcgpidhljpaaGreatDoor

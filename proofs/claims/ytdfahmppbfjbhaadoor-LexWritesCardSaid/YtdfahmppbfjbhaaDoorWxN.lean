/- Stage 13: the law's own num, giveWords, areWords, sure. -/
import Derived.Test.YtdfahmppbfjbhaaDoorWxK
import Derived.Test.YtdfahmppbfjbhaaDoorWxM
namespace Go.Proofs.YtdfahmppbfjbhaaDoor
open Go.RowKit

/-- What 'giveWords' answers. -/
def GiveW (w : World) (l : List Lx.Word) (e : Ending) (w' : World) : Prop := ∃ A' c', e = .returned (.slice A' l.length c') ∧ Row w' w.heap.size 37 3 A' l.length c' (l.flatMap wordF) ∧ Grew w w'
set_option maxRecDepth 100000 in
set_option maxHeartbeats 2000000 in
theorem giveWords_c (A : Option Addr) (cap : Nat) (l : List Lx.Word) (w : World) (h : WordsAt w A l) (hl : l.length ≤ 1000000) :
    Calls Tryd.prog 15 #[.slice A l.length cap] w (GiveW w l) := by
  obtain ⟨n, en⟩ : ∃ n, n = l.length := ⟨_, rfl⟩
  have HA := hid h
  unfold GiveW
  rw [← en] at hl ⊢
  have EN := hid en
  clear h en
  go_enter Tryd.func15, Tryd.ntmps15
  go_wp2_with fail
  go_loopw [3, 4] (fun s3 s4 wr => ∃ (i : Nat) (A' : Option Addr) (k' : Nat), s4 = .int .i64 ((i : Nat) : Int) ∧ i ≤ n ∧ s3 = .slice A' i k' ∧ Hid (Row wr w.heap.size 37 3 A' i k' ((l.take i).flatMap wordF)) ∧ Hid (Grew w wr)) (fun _ s4 _ => n - (intOf s4).toNat)
  case atStart => exact ⟨0, none, 0, rfl, Nat.zero_le _, rfl, hid (Row.nil _ _ _ _), hid (Grew.refl _)⟩
  case round =>
    obtain ⟨i, A', k', rfl, hi, rfl, HR, HG⟩ := hrel
    by_cases hlt : i < n
    · have f1 : (i : Int) < n := by omega
      obtain ⟨ad, x, rfl, hx, q0, q1, q2, hb, _, _⟩ := word_at HA.out HG.out (i := i) (by rw [← EN.out]; exact hlt)
      have HTk := hid (show (l.take (i + 1)).flatMap wordF = (l.take i).flatMap wordF ++ wordF x by rw [List.take_add_one, hx, List.flatMap_append]; simp)
      clear hx
      obtain ⟨k, z, t⟩ := x
      simp only at q0 q1 q2
      go_wp2_with (at_builtin; refine wpList_pushS (.agg #[.int .u8 0, .string ⟨#[]⟩, .int .i64 0]) 3 32 wr rfl _ _ 23 37 rfl Tryd.underlying23 word_info rfl (by decide) w.heap.size HG.out.below.size A' i k' _ rfl HR.out _ rfl rfl [.int .u8 ((k : Nat) : Int), .string z, .int .i64 t] rfl (by intro u hu; simp only [List.mem_cons, List.not_mem_nil, or_false] at hu; rcases hu with rfl | rfl | rfl <;> rfl) (by omega) (by omega) ?_; rintro A8 k8 w8 hR8 hK8 hT8; have HR8 := hid hR8; have HG8 := hid (hK8.grew HG.out (Row.at_base HR.out)); clear hR8 hK8 hT8)
      go_round
      case rel => exact ⟨i + 1, A8, k8, by go_num, by omega, rfl, by rw [HTk.out]; exact HR8, HG8⟩
      case measure => simp [intOf]; omega
    · have hin : i = n := by omega
      subst hin
      have HLe := hid (show l.take i = l by rw [EN.out, List.take_length])
      go_wp2_with fail
      go_ret
      exact ⟨A', k', rfl, by have := HR.out; rwa [HLe.out] at this, HG.out⟩
namespace Lx
/-- The same, step by step. -/
def wordsF : Nat → List UInt8 → Nat → Except Nat (List Word)
  | 0, _, _ => .ok []
  | f + 1, l, o => match l with
    | [] => .ok []
    | a :: r => match step (a :: r) with
      | none => .error o
      | some (n, t) => cat (one o t) (wordsF f ((a :: r).drop n) (o + n))
theorem words_fuel : ∀ (f : Nat) (l : List UInt8) (o : Nat), l.length ≤ f → words l o = wordsF f l o
  | 0, [], o, _ => words_nil o
  | 0, a :: r, o, h => by simp at h
  | f + 1, [], o, _ => words_nil o
  | f + 1, a :: r, o, h => by
    cases hs : step (a :: r) with
    | none =>
      rw [words_err (by simp) hs, wordsF]
      simp only [hs]
    | some x =>
      obtain ⟨n, t⟩ := x
      have hp := step_pos hs
      rw [words_step (by simp) hs, wordsF]
      simp only [hs]
      rw [words_fuel f ((a :: r).drop n) (o + n) (by rw [List.length_drop]; omega)]
end Lx
def sureText : ByteArray := ⟨#[120, 32, 58, 61, 32, 39, 105, 116, 39, 39, 115, 39, 32, 34, 110, 111, 34, 32, 97, 116, 58, 32, 51, 48, 32, 60, 61, 32, 58, 121]⟩
def sureWords : List Lx.Word := [⟨0, ⟨#[120]⟩, 0⟩, ⟨6, ⟨#[]⟩, 2⟩, ⟨4, ⟨#[105, 116, 39, 115]⟩, 5⟩, ⟨1, ⟨#[97, 116]⟩, 18⟩, ⟨3, ⟨#[51, 48]⟩, 22⟩, ⟨2, ⟨#[60, 61]⟩, 25⟩, ⟨5, ⟨#[121]⟩, 28⟩]
theorem sure_words : Lx.words (bs sureText) 0 = .ok sureWords := by
  rw [Lx.words_fuel 30 _ _ (by decide)]
  rfl
theorem sure_bad : Lx.words (bs ⟨#[120, 32, 58, 32, 121]⟩) 0 = .error 2 := by
  rw [Lx.words_fuel 5 _ _ (by decide)]
  rfl
theorem sure_text : Lx.text [⟨1, ⟨#[97, 116]⟩, 0⟩, ⟨4, ⟨#[39]⟩, 0⟩, ⟨9, ⟨#[]⟩, 0⟩] = [97, 116, 58, 32, 39, 39, 39, 39, 32, 46] := rfl
theorem row_cell {w : World} {B : Nat} {t : TypeId} {A : Option Addr} {n c : Nat} {l : List Lx.Word} (h : Row w B t 3 A n c (l.flatMap wordF)) (hl : 0 < l.length) : ∃ g, A = some ⟨g, 0, none⟩ ∧ g < w.heap.size ∧ ∀ i v, l[i]? = some v → w.cell? ⟨g, i * 3, none⟩ = some (.int .u8 ((v.k : Nat) : Int)) ∧ w.cell? ⟨g, i * 3 + 1, none⟩ = some (.string v.s) ∧ w.cell? ⟨g, i * 3 + 2, none⟩ = some (.int .i64 v.o) := by
  rcases h.cases with ⟨hlen, _, _, ⟨h1, h2, _⟩ | ⟨g, h1, hb, hw, hc, _⟩⟩
  · exfalso
    rw [h2] at hlen
    cases l with
    | nil => simp at hl
    | cons a r => simp [wordF] at hlen
  · exact ⟨g, h1, hw, fun i v hi => ⟨hc _ _ (flat_at wordF 3 wordF_len l i v hi 0 _ rfl), hc _ _ (flat_at wordF 3 wordF_len l i v hi 1 _ rfl), hc _ _ (flat_at wordF 3 wordF_len l i v hi 2 _ rfl)⟩⟩
theorem blk_words {w : World} {g : Nat} {t : TypeId} {l : List Lx.Word} (h : Blk w g t (l.flatMap wordF).toArray) (hk : ∀ x ∈ l, x.k < 256) (ho : ∀ x ∈ l, N64 x.o) : WordsAt w (some ⟨g, 0, none⟩) l := ⟨hk, ho, fun _ => ⟨⟨g, 0, none⟩, rfl, h.lt, fun i v hi j u hu => blk_row h _ rfl _ u (flat_at wordF 3 wordF_len l i v hi j u hu)⟩⟩
theorem MarksAt.env {w : World} (h : EnvAt w) {w' : World} (hg : Grew w w') : EnvAt w' := h.grew hg
set_option maxRecDepth 100000 in
set_option maxHeartbeats 8000000 in
theorem sure_c (w : World) (hm : EnvAt w) (hh : HandleAt w) : Calls Tryd.prog 7 #[] w fun e w' => e = .returned (.bool true) ∧ Grew w w' := by
  have HE := hid hm
  have HH := hid hh
  clear hm hh
  have HW1 := hid (words_c sureText (by decide) w HE.out)
  unfold sureText at HW1
  go_enter Tryd.func7, Tryd.ntmps7
  go_wp2_with fail
  refine HW1.out.mono ?_
  rintro e w1 ⟨hg1, hp⟩
  have hp' : ∃ A c, e = .returned (.tuple #[.slice A 7 c, .int .i64 0, .nilIface]) ∧ Row w1 w.heap.size 37 3 A 7 c (sureWords.flatMap wordF) := by
    have hs := sure_words
    unfold sureText at hs
    rw [hs] at hp
    rcases hp with ⟨h, _⟩ | ⟨_, o, h, _⟩ | ⟨_, l, A, c, h, h2, h3⟩
    · exact absurd h (by decide)
    · cases h
    · cases h
      exact ⟨A, c, h2, h3⟩
  clear hp
  obtain ⟨A, c, rfl, hr⟩ := hp'
  obtain ⟨g, rfl, hgl, hcs⟩ := row_cell hr (by decide)
  have HC := hid hcs
  have HG1 := hid hg1
  have HGl := hid hgl
  clear hcs hg1 hgl hr
  have HW2 := hid (words_c ⟨#[120, 32, 58, 32, 121]⟩ (by decide) w1 (HE.out.grew HG1.out))
  go_wp2_with fail
  refine HW2.out.mono ?_
  rintro e w2 ⟨hg2, hp⟩
  have hp' : e = .returned (.tuple #[.slice none 0 0, .int .i64 2, .iface 47 (.int .i64 9)]) := by
    rw [sure_bad] at hp
    rcases hp with ⟨h, _⟩ | ⟨_, o, h, h2⟩ | ⟨_, l, A, c, h, _⟩
    · exact absurd h (by decide)
    · cases h
      exact h2
    · cases h
  clear hp
  subst hp'
  obtain ⟨y2, rfl⟩ := hg2
  have HL3 : Hid (WordsAt (y2.w.alloc (.cells #[.int .u8 1, .string ⟨#[97, 116]⟩, .int .i64 0, .int .u8 4, .string ⟨#[39]⟩, .int .i64 0, .int .u8 9, .string ⟨#[]⟩, .int .i64 0] 37)) (some ⟨y2.w.heap.size, 0, none⟩) [⟨1, ⟨#[97, 116]⟩, 0⟩, ⟨4, ⟨#[39]⟩, 0⟩, ⟨9, ⟨#[]⟩, 0⟩]) := hid (blk_words (Blk.new _ _ _) (by decide) (by intro x hx; simp only [List.mem_cons, List.not_mem_nil, or_false] at hx; rcases hx with rfl | rfl | rfl <;> exact ⟨by decide, by decide⟩))
  have HG3 : Hid (Grew w1 (y2.w.alloc (.cells #[.int .u8 1, .string ⟨#[97, 116]⟩, .int .i64 0, .int .u8 4, .string ⟨#[39]⟩, .int .i64 0, .int .u8 9, .string ⟨#[]⟩, .int .i64 0] 37))) := hid (y2.grew.alloc _)
  go_wp2_with fail
  refine (text_c _ 3 [⟨1, ⟨#[97, 116]⟩, 0⟩, ⟨4, ⟨#[39]⟩, 0⟩, ⟨9, ⟨#[]⟩, 0⟩] _ HL3.out (by decide) (by decide) (HE.out.grew (HG1.out.trans HG3.out))).mono ?_
  rintro e w3 ⟨hg3, hp⟩
  have hp' : e = .returned (.tuple #[.string ⟨#[97, 116, 58, 32, 39, 39, 39, 39, 32, 46]⟩, .nilIface]) := by
    have ht := sure_text
    rw [ht] at hp
    rcases hp with ⟨h, _⟩ | ⟨_, h, _⟩ | ⟨_, _, h⟩
    · exact absurd h (by decide)
    · exact absurd h (by decide)
    · exact h
  clear hp
  subst hp'
  obtain ⟨y3, rfl⟩ := HG3.out.trans hg3
  clear hg3 HG3 HL3
  have HL4 : Hid (WordsAt (y3.w.alloc (.cells #[.int .u8 0, .string ⟨#[]⟩, .int .i64 0] 37)) (some ⟨y3.w.heap.size, 0, none⟩) [⟨0, ⟨#[]⟩, 0⟩]) := hid (blk_words (Blk.new _ _ _) (by decide) (by intro x hx; simp only [List.mem_cons, List.not_mem_nil, or_false] at hx; rw [hx]; exact ⟨by decide, by decide⟩))
  have HG4 : Hid (Grew w1 (y3.w.alloc (.cells #[.int .u8 0, .string ⟨#[]⟩, .int .i64 0] 37))) := hid (y3.grew.alloc _)
  go_wp2_with fail
  refine (text_c _ 1 [⟨0, ⟨#[]⟩, 0⟩] _ HL4.out (by decide) (by decide) (HE.out.grew (HG1.out.trans HG4.out))).mono ?_
  rintro e w4 ⟨hg4, hp⟩
  have hp' : e = .returned (.tuple #[.string ⟨#[]⟩, .iface 47 (.int .i64 1)]) := by
    rcases hp with ⟨_, h⟩ | ⟨h, _⟩ | ⟨h, _⟩
    · exact h
    · exact absurd h (by decide)
    · exact absurd h (by decide)
  clear hp
  subst hp'
  obtain ⟨y4, rfl⟩ := HG4.out.trans hg4
  clear hg4 HG4 HL4
  obtain ⟨a0, a1, a2⟩ := HC.out 0 _ rfl
  obtain ⟨b0, b1, b2⟩ := HC.out 1 _ rfl
  obtain ⟨c0, c1, c2⟩ := HC.out 2 _ rfl
  obtain ⟨d0, d1, d2⟩ := HC.out 3 _ rfl
  obtain ⟨e0, e1, e2⟩ := HC.out 4 _ rfl
  obtain ⟨f0, f1, f2⟩ := HC.out 5 _ rfl
  obtain ⟨h0, h1, h2⟩ := HC.out 6 _ rfl
  have hgl := HGl.out
  have HN9 := hid (fun W (hg : Grew w W) => num_c 9 W (HH.out.grew hg))
  have HN1 := hid (fun W (hg : Grew w W) => num_c 1 W (HH.out.grew hg))
  go_wp2_with fail
  refine (Calls.after y4.grew (HN9.out _ (HG1.out.trans y4.grew))).mono ?_
  rintro e w5 ⟨rfl, y5, rfl⟩
  go_wp2_with fail
  refine (Calls.after y5.grew (HN1.out _ (HG1.out.trans y5.grew))).mono ?_
  rintro e w6 ⟨rfl, y6, rfl⟩
  go_wp2_with fail
  refine (Calls.after y6.grew (may_c 0 (by decide) ⟨#[120]⟩ 0 (by decide) y6.w)).mono ?_
  rintro e w7 ⟨rfl, y7, rfl⟩
  rw [show Lx.may ⟨0, ⟨#[120]⟩, 0⟩ = true by decide]
  go_wp2_with fail
  refine (Calls.after y7.grew (may_c 17 (by decide) ⟨#[]⟩ 0 (by decide) y7.w)).mono ?_
  rintro e w8 ⟨rfl, y8, rfl⟩
  rw [show Lx.may ⟨17, ⟨#[]⟩, 0⟩ = false by decide]
  go_wp2_with fail
  go_ret
  exact ⟨rfl, HG1.out.trans y8.grew⟩
end Go.Proofs.YtdfahmppbfjbhaaDoor

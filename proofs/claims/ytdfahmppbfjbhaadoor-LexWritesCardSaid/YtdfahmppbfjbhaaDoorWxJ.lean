/- Stage 13: words in memory; what a blank changes; Clone. -/
import Derived.Test.YtdfahmppbfjbhaaDoorWxI
namespace Go.Proofs.YtdfahmppbfjbhaaDoor
open Go.RowKit

/-! ### Words in memory -/
def wordF (w : Lx.Word) : List Value := [.int .u8 ((w.k : Nat) : Int), .string w.s, .int .i64 w.o]
theorem wordF_len (w : Lx.Word) : (wordF w).length = 3 := rfl
theorem wordF_one (w : Lx.Word) : ∀ u ∈ wordF w, u.oneCell' = true := by
  intro u hu
  simp only [wordF, List.mem_cons, List.not_mem_nil, or_false] at hu
  rcases hu with rfl | rfl | rfl <;> rfl
/-- Words from an address on. -/
structure WordsAt (w : World) (A : Option Addr) (l : List Lx.Word) : Prop where
  k : ∀ x ∈ l, x.k < 256
  o : ∀ x ∈ l, N64 x.o
  cells : 0 < l.length → ∃ ad, A = some ad ∧ ad.block < w.heap.size ∧ CellsAt 3 wordF w ad l
theorem WordsAt.nil (w : World) (A : Option Addr) : WordsAt w A [] := ⟨by simp, by simp, fun h => absurd h (by simp)⟩
theorem WordsAt.kept {F : Nat → Prop} {w w' : World} {A : Option Addr} {l : List Lx.Word} (h : WordsAt w A l) (hk : Kept F w w') (hF : 0 < l.length → ∀ ad, A = some ad → ¬ F ad.block) : WordsAt w' A l := ⟨h.k, h.o, fun hl => by
  obtain ⟨ad, h1, h2, h3⟩ := h.cells hl
  exact ⟨ad, h1, Nat.lt_of_lt_of_le h2 hk.size, h3.kept hk h2 (hF hl ad h1)⟩⟩
theorem WordsAt.grew {w w' : World} {A : Option Addr} {l : List Lx.Word} (h : WordsAt w A l) (hg : Grew w w') : WordsAt w' A l := h.kept (F := fun _ => False) (.of_grew hg) (fun _ _ _ h => h)
/-- One word. -/
theorem word_at {w wr : World} {A : Option Addr} {l : List Lx.Word} (h : WordsAt w A l) (hg : Grew w wr) {i : Nat} (hi : i < l.length) : ∃ ad v, A = some ad ∧ l[i]? = some v ∧ wr.cell? (ad.add (i * 3)) = some (.int .u8 ((v.k : Nat) : Int)) ∧ wr.cell? ⟨ad.block, (ad.add (i * 3)).off + 1, none⟩ = some (.string v.s) ∧ wr.cell? ⟨ad.block, (ad.add (i * 3)).off + 2, none⟩ = some (.int .i64 v.o) ∧ ad.block < wr.heap.size ∧ v.k < 256 ∧ N64 v.o := by
  obtain ⟨ad, e, hb, hc⟩ := h.cells (by omega)
  have hv := List.getElem?_eq_getElem hi
  have hq : ∀ j u, (wordF l[i])[j]? = some u → wr.cell? (ad.add (i * 3 + j)) = some u := fun j u hu => by
    rw [hg.below.cell (by rw [block_add]; exact hb)]; exact hc i _ hv j u hu
  refine ⟨ad, l[i], e, hv, hq 0 _ rfl, ?_, ?_, Nat.lt_of_lt_of_le hb hg.below.size, h.k _ (List.getElem_mem hi), h.o _ (List.getElem_mem hi)⟩
  · have := hq 1 _ rfl
    rwa [← add_add, add_pos (by decide), block_add] at this
  · have := hq 2 _ rfl
    rwa [← add_add, add_pos (by decide), block_add] at this
theorem row_words {w : World} {B : Nat} {t : TypeId} {A : Option Addr} {c n : Nat} {l : List Lx.Word} (h : Row w B t 3 A n c (l.flatMap wordF)) (hn : n = l.length) (hk : ∀ x ∈ l, x.k < 256) (ho : ∀ x ∈ l, N64 x.o) : WordsAt w A l := ⟨hk, ho, fun hp => by
  rcases h.cases with ⟨_, _, _, ⟨h1, h2, _⟩ | ⟨g, h1, hb, hw, hc, _⟩⟩
  · omega
  · exact ⟨⟨g, 0, none⟩, h1, hw, CellsAt.of_row wordF_len (by rw [h1] at h; exact h)⟩⟩
theorem word_info : (Tryd.prog.info? 37).map (fun i => (i.zero, i.size, i.bytes)) = some (some (.agg #[.int .u8 0, .string ⟨#[]⟩, .int .i64 0]), 3, 32) := by kernel_rfl
/-! ### What stands first -/
theorem span_blank : ∀ (f : Nat) (l : List UInt8) (o : Nat), l.length ≤ f → Lx.words l o = Lx.words (l.drop (Lx.span Lx.isW l)) (o + Lx.span Lx.isW l)
  | _, [], o, _ => rfl
  | 0, a :: r, o, h => by simp at h
  | f + 1, a :: r, o, h => by
    by_cases hw : Lx.isW a = true
    · have hs : Lx.step (a :: r) = some (1, none) := by
        unfold Lx.step
        simp only
        rw [if_pos hw]
      have e : Lx.span Lx.isW (a :: r) = Lx.span Lx.isW r + 1 := by
        conv => lhs; unfold Lx.span
        rw [if_pos hw]
      rw [Lx.words_step (by simp) hs, e, List.drop_succ_cons, List.drop_succ_cons, List.drop_zero, span_blank f r (o + 1) (by simpa using h)]
      rw [Lx.one, Lx.cat_nil, Nat.add_assoc, Nat.add_comm 1]
    · have e : Lx.span Lx.isW (a :: r) = 0 := by
        unfold Lx.span
        rw [if_neg hw]
      rw [e]
      rfl
theorem blank_words {l : List UInt8} {o : Nat} (h : 0 < blankN l) : Lx.words l o = Lx.words (l.drop (blankN l)) (o + blankN l) := by
  unfold blankN at h ⊢
  split
  · rename_i hq
    rw [if_pos hq] at h
    cases l with
    | nil => cases hq
    | cons a r =>
      have ha : a = 34 := by simpa using hq
      subst ha
      rw [List.drop_one, List.tail_cons] at h ⊢
      split
      · rename_i hl
        have hs : Lx.step (34 :: r) = some (Lx.span Lx.notQ r + 2, none) := by
          unfold Lx.step
          simp only
          rw [if_neg (by decide), if_pos trivial, if_pos hl]
        rw [Lx.words_step (by simp) hs, Lx.one, Lx.cat_nil]
      · rename_i hl
        rw [if_neg hl] at h
        exact absurd h (Nat.lt_irrefl 0)
  · exact span_blank _ l o (Nat.le_refl _)
theorem raw_le16 (l : List UInt8) : (Lx.raw l).1 ≤ 16 := by
  unfold Lx.raw
  split
  · exact Nat.zero_le _
  · split
    · split <;> simp
    · split
      · simp
      · split
        · simp
        · split
          · split <;> simp
          · split
            · simp
            · rcases Lx.markTok_cases _ with e | ⟨k, _, h, _, e⟩
              · rw [e]; exact Nat.zero_le _
              · rw [e]; exact h
theorem mayT_pos {l : List UInt8} (h : Lx.step l ≠ none) : l ≠ [] := by rintro rfl; exact h rfl
/-- Where no blank comes: the token, if it is one. -/
theorem step_raw {l : List UInt8} (hl : l ≠ []) (h : blankN l = 0) : Lx.step l = if 0 < (Lx.raw l).2.2 ∧ Lx.mayT (Lx.raw l).1 (Lx.raw l).2.1 = true then some ((Lx.raw l).2.2, some ((Lx.raw l).1, (Lx.raw l).2.1)) else none := by
  cases l with
  | nil => exact absurd rfl hl
  | cons a r =>
    unfold blankN at h
    unfold Lx.step
    simp only
    by_cases h34 : a = 34
    · subst h34
      rw [List.head?_cons, if_pos (by decide), List.drop_one, List.tail_cons] at h
      have hl : ¬ Lx.span Lx.notQ r < r.length := fun hh => by rw [if_pos hh] at h; omega
      rw [if_neg (by decide), if_pos rfl, if_neg hl]
      have er : Lx.raw (34 :: r) = (0, [], 0) := by
        unfold Lx.raw
        simp only
        rw [if_neg (by decide), if_neg (by decide), if_neg (by decide), if_neg (by decide), if_neg (fun h => absurd h.1 (by decide))]
        exact mark_miss (fun j h1 h2 => by
          rcases (by omega : j = 6 ∨ j = 7 ∨ j = 8 ∨ j = 9 ∨ j = 10 ∨ j = 11 ∨ j = 12 ∨ j = 13 ∨ j = 14 ∨ j = 15 ∨ j = 16) with rfl | rfl | rfl | rfl | rfl | rfl | rfl | rfl | rfl | rfl | rfl <;> simp [Lx.mark, List.isPrefixOf])
      rw [er, if_neg (fun h => absurd h.1 (by decide))]
    · rw [List.head?_cons, if_neg (by simp [h34])] at h
      have hw : Lx.isW a = false := by
        cases hw : Lx.isW a
        · rfl
        · unfold Lx.span at h
          rw [if_pos hw] at h
          omega
      rw [if_neg (by rw [hw]; decide), if_neg h34]
theorem clone_c (s : ByteArray) (hs : s.size ≤ 281474976710656) (w : World) : Calls Tryd.prog 19 #[.string s] w fun e w' => e = .returned (.string s) ∧ Grew w w' := by
  have HC := hid (fun W => Tryd.stringslite_Clone s W hs)
  go_enter Tryd.func19, Tryd.ntmps19
  go_wp2_with fail
  refine (HC.out _).mono ?_
  rintro e w1 ⟨rfl, hb⟩
  have HG := hid (Grew.mk hb)
  clear hb
  go_wp2_with fail
  go_ret
  exact ⟨rfl, HG.out⟩
end Go.Proofs.YtdfahmppbfjbhaaDoor

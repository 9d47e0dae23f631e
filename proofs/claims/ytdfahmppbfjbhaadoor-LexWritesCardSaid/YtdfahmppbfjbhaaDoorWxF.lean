/- Stage 13: Cut, CutPrefix, HasPrefix, ReplaceAll at one byte, in plain words; blank. -/
import Derived.Test.YtdfahmppbfjbhaaDoorWxE
import Derived.Lib.Replace
namespace Go.Proofs.YtdfahmppbfjbhaaDoor
open Go.RowKit

/-- The library's one number that is known at run time. -/
def MaxAt (w : World) : Prop := ∃ m, w.cell? ⟨2, 0, none⟩ = some (.int .i64 m)
theorem MaxAt.grew {w w' : World} (h : MaxAt w) (hg : Grew w w') : MaxAt w' := by
  obtain ⟨m, hm⟩ := h
  exact ⟨m, (hg.below.cell (World.block_lt_of_cell? w _ hm)).trans hm⟩
theorem index_byte_span (q : UInt8) : ∀ l : List UInt8, Lib.indexByte l q = if Lx.span (fun c => c != q) l < l.length then ((Lx.span (fun c => c != q) l : Nat) : Int) else -1
  | [] => rfl
  | a :: r => by
    have ih := index_byte_span q r
    unfold Lib.indexByte Lx.span
    by_cases h : a = q
    · subst h
      simp
    · have e1 : (a == q) = false := by rw [beq_eq_false_iff_ne]; exact h
      have e2 : (a != q) = true := by rw [bne_iff_ne]; exact h
      rw [e1, if_neg (by decide), if_pos e2, ih, List.length_cons]
      by_cases h2 : Lx.span (fun c => c != q) r < r.length
      · rw [if_pos h2, if_neg (by rw [beq_iff_eq]; omega), if_pos (by omega)]
        omega
      · rw [if_neg h2, if_pos (by decide), if_neg (by omega)]
theorem cut_one (q : UInt8) (l : List UInt8) : Lib.cut l [q] = if Lx.span (fun c => c != q) l < l.length then (l.take (Lx.span (fun c => c != q) l), l.drop (Lx.span (fun c => c != q) l + 1), true) else (l, [], false) := by
  unfold Lib.cut
  rw [Lib.index_one, index_byte_span]
  by_cases h : Lx.span (fun c => c != q) l < l.length
  · rw [if_pos h, if_pos h, if_pos (by omega), Int.toNat_natCast]
    rfl
  · rw [if_neg h, if_neg h, if_neg (by decide)]
theorem trim_one (q : UInt8) (l : List UInt8) : Lib.hasPrefix l [q] = (l.head? == some q) ∧ Lib.trimPrefix l [q] = if l.head? == some q then l.drop 1 else l := by
  have e : Lib.hasPrefix l [q] = (l.head? == some q) := by
    unfold Lib.hasPrefix
    cases l with
    | nil => rfl
    | cons a r =>
      rw [List.head?_cons, show List.isPrefixOf [q] (a :: r) = (q == a) by simp [List.isPrefixOf]]
      by_cases h : a = q
      · subst h
        simp
      · have h1 : (q == a) = false := by rw [beq_eq_false_iff_ne]; exact fun e => h e.symm
        have h2 : (some a == some q) = false := by rw [beq_eq_false_iff_ne]; exact fun e => h (Option.some.inj e)
        rw [h1, h2]
  refine ⟨e, ?_⟩
  unfold Lib.trimPrefix
  rw [e]
  rfl
theorem dbl_app (a b : List UInt8) : Lx.dbl (a ++ b) = Lx.dbl a ++ Lx.dbl b := by
  induction a with
  | nil => rfl
  | cons c r ih =>
    rw [List.cons_append]
    have e : ∀ z, Lx.dbl (c :: z) = if c = 39 then 39 :: 39 :: Lx.dbl z else c :: Lx.dbl z := fun z => rfl
    rw [e, e, ih]
    split <;> rfl
theorem dbl_none {a : List UInt8} (h : a.all (fun c => c != 39) = true) : Lx.dbl a = a := by
  induction a with
  | nil => rfl
  | cons c r ih =>
    simp only [List.all_cons, Bool.and_eq_true, bne_iff_ne] at h
    unfold Lx.dbl
    rw [if_neg h.1, ih (by simpa using h.2)]
theorem dbl_len (a : List UInt8) : (Lx.dbl a).length ≤ 2 * a.length := by
  induction a with
  | nil => exact Nat.le_refl _
  | cons c r ih =>
    unfold Lx.dbl
    split <;> simp only [List.length_cons] <;> omega
/-- The parts around the first quote. -/
theorem split_at_span (q : UInt8) (l : List UInt8) (h : Lx.span (fun c => c != q) l < l.length) : l = l.take (Lx.span (fun c => c != q) l) ++ q :: l.drop (Lx.span (fun c => c != q) l + 1) := by
  have hc := List.getElem?_eq_getElem (l := l) (i := Lx.span (fun c => c != q) l) h
  have h1 := Lx.span_end (fun c => c != q) l _ hc
  have h2 : l[Lx.span (fun c => c != q) l] = q := by simpa using h1
  conv => lhs; rw [← List.take_append_drop (Lx.span (fun c => c != q) l) l]
  rw [List.drop_eq_getElem_cons h, h2]
theorem replaceK_dbl : ∀ (f : Nat) (l : List UInt8), l.length ≤ f → Lib.replaceK [39] [39, 39] (Lib.count l [39]) l = Lx.dbl l
  | f, l, hf => by
    have hi := index_byte_span 39 l
    rw [← Lib.index_one] at hi
    by_cases h : Lx.span (fun c => c != 39) l < l.length
    · rw [if_pos h] at hi
      match f, hf with
      | 0, hf => omega
      | f + 1, hf =>
        have hs := split_at_span 39 l h
        have ih := replaceK_dbl f (l.drop (Lx.span (fun c => c != 39) l + 1)) (by rw [List.length_drop]; omega)
        have hall := Lx.span_take (fun c => c != 39) l
        have hcnt : Lib.count l [39] = Lib.count (l.drop (Lx.span (fun c => c != 39) l + 1)) [39] + 1 := by
          rw [Lib.count_hit (by decide) hi, Nat.add_comm]
          rfl
        rw [hcnt, Lib.replaceK_hit _ _ _ _ _ hi, show Lx.span (fun c => c != 39) l + ([39] : List UInt8).length = Lx.span (fun c => c != 39) l + 1 from rfl, ih]
        conv => rhs; rw [hs]
        rw [dbl_app, dbl_none hall]
        simp [Lx.dbl]
    · rw [if_neg h] at hi
      rw [Lib.count_miss hi]
      have hz : Lx.span (fun c => c != 39) l = l.length := by have := Lx.span_le (fun c => c != 39) l; omega
      rw [Lx.span_all] at hz
      rw [dbl_none hz]
      rfl
theorem replaceAll_dbl (l : List UInt8) : Lib.replaceAll l [39] [39, 39] = Lx.dbl l := by
  unfold Lib.replaceAll Lib.replace Lib.replaceNum
  rw [if_neg (by decide), if_pos (.inl (by decide))]
  exact replaceK_dbl _ l (Nat.le_refl _)
/-- What Cut answers. -/
def CutTo (s : ByteArray) (q : UInt8) (w : World) (e : Ending) (w' : World) : Prop :=
  if Lx.span (fun c => c != q) (bs s) < s.size then e = .returned (.tuple #[.string (ofL ((bs s).take (Lx.span (fun c => c != q) (bs s)))), .string (ofL ((bs s).drop (Lx.span (fun c => c != q) (bs s) + 1))), .bool true]) ∧ Grew w w'
  else e = .returned (.tuple #[.string s, .string ⟨#[]⟩, .bool false]) ∧ Grew w w'
theorem grew_drewN (w : World) (n : Nat) : Grew w (w.drewN n) := .mk ⟨rfl, rfl, rfl, Nat.le_refl _, fun _ _ => rfl⟩
theorem cut_c (s : ByteArray) (q : UInt8) (hs : s.size ≤ 4294967280) (w : World) (hm : MaxAt w) : Calls Tryd.prog 37 #[.string s, .string ⟨#[q]⟩] w (CutTo s q w) := by
  obtain ⟨m, hm⟩ := hm
  refine (Tryd.strings_Cut s ⟨#[q]⟩ m w (by omega) hm).mono ?_
  rintro e w' ⟨rfl, n, rfl⟩
  have e := cut_one q (bs s)
  unfold CutTo
  rw [bs_len] at e
  rw [show Lib.cut s.data.toList (⟨#[q]⟩ : ByteArray).data.toList = Lib.cut (bs s) [q] from rfl, e]
  by_cases h : Lx.span (fun c => c != q) (bs s) < s.size
  · rw [if_pos h, if_pos h]
    exact ⟨rfl, grew_drewN w n⟩
  · rw [if_neg h, if_neg h]
    refine ⟨?_, grew_drewN w n⟩
    show Ending.returned (.tuple #[.string (ofL (bs s)), .string ⟨#[]⟩, .bool false]) = _
    rw [ofL_bs]
theorem cutPrefix_c (s : ByteArray) (q : UInt8) (w : World) : Calls Tryd.prog 34 #[.string s, .string ⟨#[q]⟩] w fun e w' => e = .returned (.tuple #[.string (ofL (if (bs s).head? == some q then (bs s).drop 1 else bs s)), .bool ((bs s).head? == some q)]) ∧ w' = w := by
  refine (Tryd.strings_CutPrefix s ⟨#[q]⟩ w).mono ?_
  rintro e w' ⟨rfl, rfl⟩
  obtain ⟨e1, e2⟩ := trim_one q (bs s)
  refine ⟨?_, rfl⟩
  rw [show Lib.trimPrefix s.data.toList (⟨#[q]⟩ : ByteArray).data.toList = Lib.trimPrefix (bs s) [q] from rfl, show Lib.hasPrefix s.data.toList (⟨#[q]⟩ : ByteArray).data.toList = Lib.hasPrefix (bs s) [q] from rfl, e1, e2]
  rfl
theorem hasPrefix_c (s p : ByteArray) (w : World) : Calls Tryd.prog 42 #[.string s, .string p] w fun e w' => e = .returned (.bool ((bs p).isPrefixOf (bs s))) ∧ w' = w := Tryd.strings_HasPrefix s p w
theorem replaceAll_c (s : ByteArray) (hs : s.size ≤ 1000000) (w : World) (hm : MaxAt w) : Calls Tryd.prog 53 #[.string s, .string ⟨#[39]⟩, .string ⟨#[39, 39]⟩] w fun e w' => e = .returned (.string (ofL (Lx.dbl (bs s)))) ∧ Grew w w' := by
  obtain ⟨m, hm⟩ := hm
  have hc := Lib.countB_mul_le ⟨#[39]⟩ (by decide) s.size s (Nat.le_refl _)
  rw [show (⟨#[39]⟩ : ByteArray).size = 1 from rfl] at hc
  refine (Tryd.strings_ReplaceAll s ⟨#[39]⟩ ⟨#[39, 39]⟩ m w (by omega) hm (by decide) (by rw [show (⟨#[39, 39]⟩ : ByteArray).size = 2 from rfl]; omega)).mono ?_
  rintro e w' ⟨rfl, hb⟩
  refine ⟨?_, Grew.mk hb⟩
  rw [show Lib.replaceAll s.data.toList (⟨#[39]⟩ : ByteArray).data.toList (⟨#[39, 39]⟩ : ByteArray).data.toList = Lib.replaceAll (bs s) [39] [39, 39] from rfl, replaceAll_dbl]
  rfl

/-- How many bytes of white space, or of a comment, a text begins with. -/
def blankN (l : List UInt8) : Nat := if l.head? == some 34 then (if Lx.span Lx.notQ (l.drop 1) < (l.drop 1).length then Lx.span Lx.notQ (l.drop 1) + 2 else 0) else Lx.span Lx.isW l
theorem blankN_le (l : List UInt8) : blankN l ≤ l.length := by
  unfold blankN
  split
  · split
    · rw [List.length_drop] at *
      omega
    · exact Nat.zero_le _
  · exact Lx.span_le _ _
set_option maxRecDepth 100000 in
set_option maxHeartbeats 1000000 in
theorem blank_c (s : ByteArray) (hs : s.size ≤ 4294967280) (w : World) (hm : MaxAt w) : Calls Tryd.prog 17 #[.string s] w fun e w' => e = .returned (.int .i64 ((blankN (bs s) : Nat) : Int)) ∧ Grew w w' := by
  have HP := hid (fun W => cutPrefix_c s 34 W)
  unfold blankN
  by_cases h : ((bs s).head? == some 34) = true
  · rw [h] at HP
    rw [if_pos h]
    rw [if_pos rfl] at HP
    have hz : (ofL ((bs s).drop 1)).size ≤ 4294967280 := by
      rw [ofL_len, List.length_drop, bs_len]
      omega
    have HC := hid (fun W (hg : Grew w W) => cut_c (ofL ((bs s).drop 1)) 34 hz W (hm.grew hg))
    unfold CutTo at HC
    rw [bs_ofL] at HC
    change Hid (∀ W, Grew w W → Calls _ _ _ W fun e w' => if Lx.span Lx.notQ ((bs s).drop 1) < (ofL ((bs s).drop 1)).size then _ else _) at HC
    rw [ofL_len] at HC
    generalize hd : (bs s).drop 1 = d at *
    have hle := Lx.span_le Lx.notQ d
    rw [ofL_len] at hz
    have HT : Hid ((ofL (d.take (Lx.span Lx.notQ d))).size = Lx.span Lx.notQ d) := hid (by rw [ofL_len, List.length_take]; omega)
    by_cases h2 : Lx.span Lx.notQ d < d.length
    · rw [if_pos h2]
      simp only [if_pos h2] at HC
      change Hid (∀ W, Grew w W → Calls _ _ _ W fun e w' => e = Ending.returned (.tuple #[.string (ofL (d.take (Lx.span Lx.notQ d))), .string (ofL (d.drop (Lx.span Lx.notQ d + 1))), .bool true]) ∧ Grew W w') at HC
      have hzz : Lx.span Lx.notQ d ≤ 4294967280 := by omega
      generalize Lx.span Lx.notQ d = n at *
      generalize ofL (d.take n) = x at *
      generalize ofL (d.drop (n + 1)) = y at *
      generalize ofL d = z at *
      have hx : x.size ≤ 4294967280 := by rw [HT.out]; exact hzz
      clear h h2 hd hle hzz
      go_enter Tryd.func17, Tryd.ntmps17
      go_wp2_with fail
      refine (HP.out _).mono ?_
      rintro e w1 ⟨rfl, rfl⟩
      go_wp2_with fail
      refine (HC.out _ (Grew.refl _)).mono ?_
      rintro e w1 ⟨rfl, hg⟩
      go_wp2_with fail
      go_ret
      exact ⟨ret_int (by have := HT.out; omega), hg⟩
    · rw [if_neg h2]
      simp only [if_neg h2] at HC
      generalize ofL d = z at *
      clear h h2 hd hle HT
      go_enter Tryd.func17, Tryd.ntmps17
      go_wp2_with fail
      refine (HP.out _).mono ?_
      rintro e w1 ⟨rfl, rfl⟩
      go_wp2_with fail
      refine (HC.out _ (Grew.refl _)).mono ?_
      rintro e w1 ⟨rfl, hg⟩
      go_wp2_with fail
      go_ret
      exact ⟨rfl, hg⟩
  · rw [Bool.not_eq_true] at h
    rw [h] at HP
    rw [if_neg (by rw [h]; decide)]
    rw [if_neg (by decide), ofL_bs] at HP
    have HS := hid (fun W => span_c _ enters_isW _ isWhite_c s hs W)
    generalize Lx.span Lx.isW (bs s) = n at *
    clear h
    go_enter Tryd.func17, Tryd.ntmps17
    go_wp2_with fail
    refine (HP.out _).mono ?_
    rintro e w1 ⟨rfl, rfl⟩
    go_wp2_with fail
    refine (HS.out _).mono ?_
    rintro e w1 ⟨rfl, hg⟩
    go_wp2_with fail
    go_ret
    exact ⟨rfl, hg⟩
end Go.Proofs.YtdfahmppbfjbhaaDoor

/- Law LexApart walked. -/
import Derived.Test.YtdfahmppbfjbhaaDoorWxN
import Derived.Test.YtdfahmppbfjbhaaDoorLxU
import Derived.BigQuiet
namespace Go.Proofs.YtdfahmppbfjbhaaDoor
open Go.RowKit

/-- What Words' answer is, as a value, and where its words lie. -/
def WdsV (s : ByteArray) (v : Value) (w' : World) : Prop :=
  (∃ o, Lx.words (bs s) 0 = .error o ∧ o ≤ s.size ∧ v = .tuple #[.slice none 0 0, .int .i64 ((o : Nat) : Int), errVal 9]) ∨
  (∃ l A c, Lx.words (bs s) 0 = .ok l ∧ v = .tuple #[.slice A l.length c, .int .i64 0, .nilIface] ∧ WordsAt w' A l)
theorem WdsV.grew {s : ByteArray} {v : Value} {w w' : World} (h : WdsV s v w) (hg : Grew w w') : WdsV s v w' := by
  rcases h with h | ⟨l, A, c, h1, h2, h3⟩
  · exact .inl h
  · exact .inr ⟨l, A, c, h1, h2, h3.grew hg⟩
theorem wds_of {s : ByteArray} {w w' : World} {e : Ending} (h : WordsPost s w e w') (hs : s.size ≤ 65536) : ∃ v, e = .returned v ∧ WdsV s v w' ∧ Grew w w' := by
  obtain ⟨hg, h | ⟨_, o, h1, h2⟩ | ⟨_, l, A, c, h1, h2, h3⟩⟩ := h
  · omega
  · refine ⟨_, h2, .inl ⟨o, h1, ?_, rfl⟩, hg⟩
    obtain ⟨n, d, e1, e2, _⟩ := Lx.reach_err _ (bs s) 0 o (Nat.le_refl _) h1
    have := e2.le
    rw [bs_len] at this
    omega
  · refine ⟨_, h2, .inr ⟨l, A, c, h1, rfl, row_words h3 rfl (fun x hx => ?_) (fun x hx => ?_)⟩, hg⟩
    · have := Lx.words_kind _ _ _ _ (Nat.le_refl _) h1 x hx
      omega
    · have := Lx.words_place h1 x hx
      rw [bs_len] at this
      unfold N64
      omega
theorem ok_place {s : ByteArray} {l : List Lx.Word} (h : Lx.words (bs s) 0 = .ok l) {i : Nat} {x : Lx.Word} (hx : l[i]? = some x) : ∃ o : Nat, x.o = ((o : Nat) : Int) ∧ o ≤ s.size := by
  have := Lx.words_place h x (List.mem_of_getElem? hx)
  rw [bs_len] at this
  exact ⟨x.o.toNat, by omega, by omega⟩
/-- The law's blanks. -/
def moreAt (j : Nat) : ByteArray := ofL (Lx.mores.getD j [])
theorem more_at (j : Nat) (hj : j < 5) : Lx.Blank (bs (moreAt j)) ∧ (moreAt j).size ≤ 15 := by
  have h : Lx.mores.getD j [] ∈ Lx.mores := by
    rw [List.getD_eq_getElem?_getD, List.getElem?_eq_getElem (by exact hj)]
    exact List.getElem_mem _
  obtain ⟨h1, h2⟩ := Lx.mores_blank h
  exact ⟨h1, by unfold moreAt; rw [ofL_len]; exact h2⟩
theorem more_cell (j : Nat) (hj : j < 5) : ([.string ⟨#[32]⟩, .string ⟨#[9]⟩, .string ⟨#[10]⟩, .string ⟨#[13]⟩, .string ⟨#[32, 34, 97, 32, 39, 91, 32, 114, 101, 109, 97, 114, 107, 34, 32]⟩] : List Value)[j]? = some (.string (moreAt j)) := by
  rcases (by omega : j = 0 ∨ j = 1 ∨ j = 2 ∨ j = 3 ∨ j = 4) with rfl | rfl | rfl | rfl | rfl <;> rfl
theorem more_get (j : Nat) (hj : j < ([.string ⟨#[32]⟩, .string ⟨#[9]⟩, .string ⟨#[10]⟩, .string ⟨#[13]⟩, .string ⟨#[32, 34, 97, 32, 39, 91, 32, 114, 101, 109, 97, 114, 107, 34, 32]⟩] : List Value).length) : ([.string ⟨#[32]⟩, .string ⟨#[9]⟩, .string ⟨#[10]⟩, .string ⟨#[13]⟩, .string ⟨#[32, 34, 97, 32, 39, 91, 32, 114, 101, 109, 97, 114, 107, 34, 32]⟩] : List Value)[j]'hj = .string (moreAt j) := by
  have h := more_cell j hj
  rw [List.getElem?_eq_getElem hj] at h
  exact Option.some.inj h
/-- The text with a blank put into it. -/
def putIn (s M : ByteArray) (n : Nat) : ByteArray := s.extract 0 n ++ M ++ s.extract n s.size
theorem putIn_bs (s M : ByteArray) (n : Nat) : bs (putIn s M n) = (bs s).take n ++ bs M ++ (bs s).drop n := by
  unfold putIn
  rw [bs_app, bs_app, ext_take, ext_drop, bs_ofL, bs_ofL]
theorem putIn_size (s M : ByteArray) (n : Nat) (hn : n ≤ s.size) : (putIn s M n).size = s.size + M.size := by
  rw [← bs_len, putIn_bs, List.length_append, List.length_append, List.length_take, List.length_drop, bs_len, bs_len]
  omega
theorem gcOff : (Region.Mode.any == Region.Mode.gc) = false := by decide
theorem textOff : (Region.Mode.any == Region.Mode.text) = false := by decide
/-- What the operations of the second call give. -/
def ApF (s M x z y N : ByteArray) (en : Nat) (P : Value → World → Prop) (p1 p2 : Value) (i : Nat) (v : Value) (w' : World) : Prop := match i with
  | 0 => v = .string s
  | 1 => v = .int .i64 ((en : Nat) : Int)
  | 2 => v = .string x
  | 3 => v = .string M
  | 4 => v = .string z
  | 5 => v = .string s
  | 6 => v = .int .i64 ((en : Nat) : Int)
  | 7 => v = .string y
  | 8 => v = .string N
  | 9 => ∃ u, v = .tuple #[u, p1, p2] ∧ P u w'
  | 10 => ∃ u, v = .tuple #[u, p1, p2] ∧ P u w'
  | 11 => P v w'
  | 12 => v = p1
  | 13 => v = p2
  | 14 => P v w'
  | 15 => v = p1
  | 16 => v = p2
  | _ => True
theorem ApF.grew {s M x z y N : ByteArray} {en : Nat} {P : Value → World → Prop} {p1 p2 : Value} (hP : ∀ u w1 w2, P u w1 → Grew w1 w2 → P u w2) : ∀ i v w1 w2, ApF s M x z y N en P p1 p2 i v w1 → Grew w1 w2 → ApF s M x z y N en P p1 p2 i v w2 := by
  intro i v w1 w2 h hg
  unfold ApF at h ⊢
  split at h
  all_goals first | exact h | exact hP _ _ _ h hg | skip
  · obtain ⟨u, h1, h2⟩ := h
    exact ⟨u, h1, hP _ _ _ h2 hg⟩
  · obtain ⟨u, h1, h2⟩ := h
    exact ⟨u, h1, hP _ _ _ h2 hg⟩
/-- Words of the text with a blank put into it, as a call answers. -/
def ApC (N : ByteArray) (P : Value → World → Prop) (p1 p2 : Value) (w : World) : Prop := ∀ W, Grew w W → Calls Tryd.prog 8 #[.string N] W fun e w' => ∃ u, e = .returned (.tuple #[u, p1, p2]) ∧ P u w' ∧ Grew W w'
theorem apc_err {N : ByteArray} {o : Nat} {w : World} (hE : EnvAt w) (hN : N.size ≤ 65536) (h : Lx.words (bs N) 0 = .error o) : ApC N (fun u _ => u = .slice none 0 0) (.int .i64 ((o : Nat) : Int)) (.iface 47 (.int .i64 9)) w := by
  intro W hg
  refine (words_c N (by omega) W (hE.grew hg)).mono ?_
  intro e w' hp
  obtain ⟨v, rfl, hv, hg1⟩ := wds_of hp hN
  rcases hv with ⟨o2, h2, _, rfl⟩ | ⟨l, A, c, h2, _⟩
  · rw [h] at h2
    cases h2
    exact ⟨_, rfl, rfl, hg1⟩
  · rw [h] at h2
    cases h2
theorem apc_ok {N : ByteArray} {l : List Lx.Word} {n : Nat} {w : World} (hE : EnvAt w) (hN : N.size ≤ 65536) (h : Lx.words (bs N) 0 = .ok l) (hn : n = l.length) : ApC N (fun u w' => ∃ A c, u = .slice A n c ∧ WordsAt w' A l) (.int .i64 0) .nilIface w := by
  intro W hg
  refine (words_c N (by omega) W (hE.grew hg)).mono ?_
  intro e w' hp
  obtain ⟨v, rfl, hv, hg1⟩ := wds_of hp hN
  rcases hv with ⟨o2, h2, _, _⟩ | ⟨l2, A, c, h2, rfl, h3⟩
  · rw [h] at h2
    cases h2
  · rw [h] at h2
    cases h2
    exact ⟨_, rfl, ⟨A, c, by rw [hn], h3⟩, hg1⟩
set_option maxRecDepth 100000 in
set_option maxHeartbeats 8000000 in
theorem apart13_walk (s : ByteArray) (k : Int) (b : Nat) (_hk : N64 k) (hb : b < 256) (w : World) (hm : EnvAt w) (hh : HandleAt w) :
    Calls Tryd.prog 6 #[.string s, .int .i64 k, .int .u8 ((b : Nat) : Int)] w fun e w' => e = .returned (.bool true) ∧ Grew w w' := by
  have HE := hid hm
  have HH := hid hh
  clear hm hh
  have HS := hid (fun W (hg : Grew w W) => sure_c W (HE.out.grew hg) (HH.out.grew hg))
  by_cases hlong : 60000 < s.size
  · have f1 : (60000 : Int) < ((s.size : Nat) : Int) := by omega
    go_enter Tryd.func6, Tryd.ntmps6
    go_wp2_with fail
    refine (HS.out _ (Grew.refl _)).mono ?_
    rintro e w2 ⟨rfl, hg2⟩
    have HG2 := hid hg2
    clear hg2
    go_wp2_with fail
    go_ret
    exact ⟨rfl, HG2.out⟩
  · have f1 : ¬ (60000 : Int) < ((s.size : Nat) : Int) := by omega
    have hsz : s.size ≤ 60000 := by omega
    clear hlong
    have HWd := hid (words_c s (by omega) w HE.out)
    go_enter Tryd.func6, Tryd.ntmps6
    go_wp2_with fail
    refine HWd.out.mono ?_
    intro e w1 hp
    obtain ⟨v, rfl, hv, hg1⟩ := wds_of hp (by omega)
    clear hp
    have HG1 := hid hg1
    clear hg1
    rcases hv with ⟨o, ho, hos, rfl⟩ | ⟨l, A1, c1, hl, rfl, hw1⟩
    · unfold errVal
      have HO := hid ho
      clear ho
      obtain ⟨hMb, hMs⟩ := more_at (b % 5) (Nat.mod_lt _ (by decide))
      have hMc := more_get (b % 5) (Nat.mod_lt _ (by decide))
      obtain ⟨M, hM⟩ : ∃ M, M = moreAt (b % 5) := ⟨_, rfl⟩
      rw [← hM] at hMb hMs hMc
      have HMb := hid hMb
      clear hMb hM
      have hb5 : b % 5 < 5 := Nat.mod_lt _ (by decide)
      have G2 := (Grew.refl w1).alloc (.cells #[.string ⟨#[32]⟩, .string ⟨#[9]⟩, .string ⟨#[10]⟩, .string ⟨#[13]⟩, .string ⟨#[32, 34, 97, 32, 39, 91, 32, 114, 101, 109, 97, 114, 107, 34, 32]⟩] 9)
      have HG2 := hid (HG1.out.trans G2)
      go_upto_region 13 with fail
      try rw [hMc]
      clear hMc G2
      generalize w1.alloc (.cells #[.string ⟨#[32]⟩, .string ⟨#[9]⟩, .string ⟨#[10]⟩, .string ⟨#[13]⟩, .string ⟨#[32, 34, 97, 32, 39, 91, 32, 114, 101, 109, 97, 114, 107, 34, 32]⟩] 9) = w2 at *
      generalize w1.heap.size = gm at *
      obtain ⟨en, hen⟩ : ∃ en, en = o := ⟨_, rfl⟩
      have hxs : (s.extract 0 en).size = en := by rw [ext_take, ofL_len, List.length_take, bs_len]; omega
      have hys : (s.extract en s.size).size = s.size - en := by rw [ext_drop, ofL_len, List.length_drop, bs_len]
      have hNs := putIn_size s M en (by omega)
      have hNb := putIn_bs s M en
      have hWn := (Lx.apart_err HO.out HMb.out).2
      rw [← hen, ← hNb, bs_len] at hWn
      unfold putIn at hNs hWn
      have hzs : (s.extract 0 en ++ M).size = en + M.size := by rw [ByteArray.size_append, hxs]
      rw [← hen]
      clear hNb
      generalize hxx : s.extract 0 en = x at *
      generalize hyy : s.extract en s.size = y at *
      generalize hzz : x ++ M = z at *
      generalize hNN : z ++ y = N at *
      have hNs2 : N.size ≤ 65536 := by rw [hNs]; omega
      have hzs2 : z.size ≤ 60015 := by omega
      have hxs2 : x.size ≤ 60000 := by omega
      have hys2 : y.size ≤ 60000 := by omega
      have hen2 : en ≤ s.size := by omega
      have hc1 : ¬ 9223372036854775807 < x.size + M.size := by omega
      have hc2 : ¬ 9223372036854775807 < z.size + y.size := by omega
      clear hen hxs hys hzs hNs
      have HC := hid (apc_err (w := w) HE.out hNs2 hWn)
      obtain ⟨p1, hp1⟩ : ∃ p1 : Value, p1 = .int .i64 ((en + M.size : Nat) : Int) := ⟨_, rfl⟩
      obtain ⟨p2, hp2⟩ : ∃ p2 : Value, p2 = .iface 47 (.int .i64 9) := ⟨_, rfl⟩
      obtain ⟨P, hPP⟩ : ∃ P : Value → World → Prop, P = fun u _ => u = .slice none 0 0 := ⟨_, rfl⟩
      rw [← hp1, ← hp2, ← hPP] at HC
      have HP : Hid (∀ (u : Value) (w1 w2 : World), P u w1 → Grew w1 w2 → P u w2) := hid (fun _ _ _ h _ => by rw [hPP] at h ⊢; exact h)
      have HPP := hid hPP
      have HP1 := hid hp1
      have HP2 := hid hp2
      clear hp1 hp2 hPP
      have hmx : Tryd.prog.follows .mixedOrders = true := by kernel_rfl
      refine wp_region_facts (w0 := w2) w2 17 [61, 62, 63, 64, 65, 66, 67, 68, 69, 70, 60, 71, 72, 73, 13, 14, 15] [] (ApF s M x z y N en P p1 p2) hmx (by kernel_rfl) (Grew.refl _) (ApF.grew HP.out) ?_ ?_
      · repeat' (first | exact trivial | apply And.intro)
        all_goals
          intro a w' hgw hs hA
          have e0 := hs.eval 0 (by decide) (v := .string s) rfl
          have e10 := hs.eval 10 (by decide) (v := .int .i64 ((en : Nat) : Int)) rfl
          have e12 := hs.eval 12 (by decide) (v := .string M) rfl
          have HGW := hid (HG2.out.trans hgw)
          clear hs hgw
          simp only [Ahead, Region.binds, slotOf, ApF, List.getD_cons_succ, List.getD_cons_zero, forall_const, and_true, gcOff, textOff, Bool.false_eq_true, false_implies] at hA
          simp only [wantedD, if_true]
          unfold Oper.wp
          have ec : ∀ v, a.eval (.const v) = v := fun _ => rfl
          have ef : ∀ z, a.eval (.func z) = .func (.func z) #[] #[] := fun _ => rfl
          generalize hfe : a.eval = fe at *
          clear hfe
        · go_simp
          exact Gives.of' rfl (Grew.refl _) rfl
        · go_simp
          exact Gives.of' rfl (Grew.refl _) rfl
        · go_simp
          exact Gives.of' rfl (Grew.refl _) rfl
        · go_simp
          exact Gives.of' rfl (Grew.refl _) rfl
        · go_simp
          exact Gives.of' rfl (Grew.refl _) rfl
        · go_simp
          exact Gives.of' rfl (Grew.refl _) rfl
        · go_simp
          exact Gives.of' rfl (Grew.refl _) rfl
        · go_simp
          exact Gives.of' rfl (Grew.refl _) rfl
        · go_simp
          exact Gives.of' rfl (Grew.refl _) rfl
        · go_simp
          refine (HC.out _ HGW.out).mono ?_
          rintro e wy ⟨u, rfl, hu, hgy⟩
          exact Gives.of' rfl hgy ⟨u, rfl, hu⟩
        · obtain ⟨u, hu, hp⟩ := hA
          have HPu := hid hp
          clear hp
          go_simp
          exact Gives.of' rfl (Grew.refl _) ⟨u, rfl, HPu.out⟩
        · obtain ⟨u, hu, hp⟩ := hA
          have HPu := hid hp
          clear hp
          go_simp
          exact Gives.of' rfl (Grew.refl _) HPu.out
        · obtain ⟨u, hu, hp⟩ := hA
          clear hp
          go_simp
          exact Gives.of' rfl (Grew.refl _) rfl
        · obtain ⟨u, hu, hp⟩ := hA
          clear hp
          go_simp
          exact Gives.of' rfl (Grew.refl _) rfl
        · have HPu := hid hA.1
          clear hA
          go_simp
          exact Gives.of' rfl (Grew.refl _) HPu.out
        · have h1 := hA.1
          clear hA
          go_simp
          exact Gives.of' rfl (Grew.refl _) rfl
        · have h1 := hA.1
          clear hA
          go_simp
          exact Gives.of' rfl (Grew.refl _) rfl
      intro a w3 hgw hs hf _ _
      have h14 := hf 14 (by decide)
      have h15 := hf 15 (by decide)
      have h16 := hf 16 (by decide)
      simp only [slotOf, ApF, List.getD_cons_succ, List.getD_cons_zero] at h14 h15 h16
      obtain ⟨fn, rfl, hft⟩ := hs.put
      rw [hft] at h14 h15 h16
      rw [HPP.out] at h14
      rw [HP1.out] at h15
      rw [HP2.out] at h16
      have HG3 := hid (HG2.out.trans hgw)
      clear hf hft hs hgw
      simp only [List.drop_succ_cons, List.drop_zero, putAll, List.foldl_cons, List.foldl_nil, Act.put, List.setIfInBounds_toArray, List.set_cons_succ, List.set_cons_zero, h14, h15, h16]
      have HN9 := hid (fun W (hg : Grew w W) => num_c 9 W (HH.out.grew hg))
      clear h14 h15 h16
      go_wp2_with fail
      refine (HN9.out _ HG3.out).mono ?_
      rintro e w4 ⟨rfl, hg4⟩
      have HG4 := hid (HG3.out.trans hg4)
      clear hg4
      go_wp2_with fail
      refine (HN9.out _ HG4.out).mono ?_
      rintro e w5 ⟨rfl, hg5⟩
      have HG5 := hid (HG4.out.trans hg5)
      clear hg5
      go_wp2_with fail
      refine (HN9.out _ HG5.out).mono ?_
      rintro e w6 ⟨rfl, hg6⟩
      have HG6 := hid (HG5.out.trans hg6)
      clear hg6
      go_wp2_with fail
      refine (HS.out _ HG6.out).mono ?_
      rintro e w7 ⟨rfl, hg7⟩
      have HG7 := hid (HG6.out.trans hg7)
      clear hg7
      go_wp2_with fail
      go_ret
      exact ⟨rfl, HG7.out⟩
    · have HL := hid hl
      have HW1 := hid hw1
      clear hl hw1
      obtain ⟨n, en0⟩ : ∃ n, n = l.length := ⟨_, rfl⟩
      have EN := hid en0
      have hnn : n ≤ 60000 := by
        have := Lx.words_len HL.out
        rw [bs_len] at this
        omega
      rw [← en0]
      clear en0
      obtain ⟨hMb, hMs⟩ := more_at (b % 5) (Nat.mod_lt _ (by decide))
      have hMc := more_get (b % 5) (Nat.mod_lt _ (by decide))
      obtain ⟨M, hM⟩ : ∃ M, M = moreAt (b % 5) := ⟨_, rfl⟩
      rw [← hM] at hMb hMs hMc
      have HMb := hid hMb
      clear hMb hM
      have hb5 : b % 5 < 5 := Nat.mod_lt _ (by decide)
      have G2 := (Grew.refl w1).alloc (.cells #[.string ⟨#[32]⟩, .string ⟨#[9]⟩, .string ⟨#[10]⟩, .string ⟨#[13]⟩, .string ⟨#[32, 34, 97, 32, 39, 91, 32, 114, 101, 109, 97, 114, 107, 34, 32]⟩] 9)
      have HG2 := hid (HG1.out.trans G2)
      have HG12 := hid G2
      have hcase : n = 0 ∨ (0 < n ∧ ∃ i : Nat, i < n ∧ k.tmod ((n : Nat) : Int) = ((i : Nat) : Int)) ∨ (0 < n ∧ ∃ (i : Nat) (r : Int), i < n ∧ k.tmod ((n : Nat) : Int) = r ∧ r < 0 ∧ r + ((n : Nat) : Int) = ((i : Nat) : Int)) := by
        rcases Nat.eq_zero_or_pos n with h0 | h0
        · exact .inl h0
        · have hp : (0 : Int) < ((n : Nat) : Int) := by omega
          have h1 := Int.tmod_lt_of_pos k hp
          have h2 := Int.lt_tmod_of_pos k hp
          by_cases h3 : 0 ≤ k.tmod ((n : Nat) : Int)
          · exact .inr (.inl ⟨h0, (k.tmod ((n : Nat) : Int)).toNat, by omega, by omega⟩)
          · exact .inr (.inr ⟨h0, (k.tmod ((n : Nat) : Int) + ((n : Nat) : Int)).toNat, _, by omega, rfl, by omega, by omega⟩)
      obtain ⟨en, hen2, hWn, hwalk⟩ : ∃ en : Nat, en ≤ s.size ∧ Lx.words (bs (putIn s M en)) 0 = .ok (l.map (Lx.shiftAt en M.size)) ∧ ((n = 0 ∧ en = s.size) ∨ (0 < n ∧ ∃ (i : Nat) (x : Lx.Word), i < n ∧ k.tmod ((n : Nat) : Int) = ((i : Nat) : Int) ∧ l[i]? = some x ∧ x.o = ((en : Nat) : Int)) ∨ (0 < n ∧ ∃ (i : Nat) (r : Int) (x : Lx.Word), i < n ∧ k.tmod ((n : Nat) : Int) = r ∧ r < 0 ∧ r + ((n : Nat) : Int) = ((i : Nat) : Int) ∧ l[i]? = some x ∧ x.o = ((en : Nat) : Int))) := by
        rcases hcase with h0 | ⟨h0, i, hi, hr⟩ | ⟨h0, i, r, hi, hr, hneg, hri⟩
        · have hl0 : l = [] := List.eq_nil_of_length_eq_zero (by rw [← EN.out]; exact h0)
          refine ⟨s.size, Nat.le_refl _, ?_, .inl ⟨h0, rfl⟩⟩
          have := Lx.apart_none (L := bs s) (by rw [HL.out, hl0]) HMb.out
          rw [bs_len] at this
          rw [putIn_bs, this, hl0]
          rfl
        · obtain ⟨x, hx⟩ : ∃ x, l[i]? = some x := ⟨_, List.getElem?_eq_getElem (by rw [← EN.out]; exact hi)⟩
          obtain ⟨en, h1, h2, h3⟩ := Lx.apart_word HL.out hx HMb.out
          rw [bs_len] at h2 h3
          exact ⟨en, h2, by rw [putIn_bs]; exact h3, .inr (.inl ⟨h0, i, x, hi, hr, hx, h1⟩)⟩
        · obtain ⟨x, hx⟩ : ∃ x, l[i]? = some x := ⟨_, List.getElem?_eq_getElem (by rw [← EN.out]; exact hi)⟩
          obtain ⟨en, h1, h2, h3⟩ := Lx.apart_word HL.out hx HMb.out
          rw [bs_len] at h2 h3
          exact ⟨en, h2, by rw [putIn_bs]; exact h3, .inr (.inr ⟨h0, i, r, x, hi, hr, hneg, hri, hx, h1⟩)⟩
      clear hcase
      have hxs : (s.extract 0 en).size = en := by rw [ext_take, ofL_len, List.length_take, bs_len]; omega
      have hys : (s.extract en s.size).size = s.size - en := by rw [ext_drop, ofL_len, List.length_drop, bs_len]
      have hNs := putIn_size s M en hen2
      unfold putIn at hNs hWn
      have hzs : (s.extract 0 en ++ M).size = en + M.size := by rw [ByteArray.size_append, hxs]
      have hNs2 : (s.extract 0 en ++ M ++ s.extract en s.size).size ≤ 65536 := by omega
      have hzs2 : (s.extract 0 en ++ M).size ≤ 60015 := by omega
      have hxs2 : (s.extract 0 en).size ≤ 60000 := by omega
      have hys2 : (s.extract en s.size).size ≤ 60000 := by omega
      have hc1 : ¬ 9223372036854775807 < (s.extract 0 en).size + M.size := by omega
      have hc2 : ¬ 9223372036854775807 < (s.extract 0 en ++ M).size + (s.extract en s.size).size := by omega
      have HC0 := hid (apc_ok (w := w) HE.out hNs2 hWn (n := n) (by rw [List.length_map]; exact EN.out))
      clear hWn hxs hys hNs hzs
      rcases hwalk with hA | hA | hA
      all_goals
        first
        | (obtain ⟨h0, he⟩ := hA
           have h0i : ¬ (0 : Int) < ((n : Nat) : Int) := by omega
           have h0d : decide (0 < n) = false := by rw [decide_eq_false_iff_not]; omega
           have HEn := hid he
           clear h0 he
           go_upto_region 13 with fail
           rw [← HEn.out]
           clear HEn)
        | (obtain ⟨h0, i, (wx : Lx.Word), hi, hr, hx, hxo⟩ := hA
           obtain ⟨ad, wy, rfl, hy, q0, q1, q2, qb, _, _⟩ := word_at HW1.out (Grew.refl _) (i := i) (by rw [← EN.out]; exact hi)
           rw [hx] at hy
           cases hy
           rw [hxo] at q2
           have hii : (i : Int) < ((n : Nat) : Int) := by omega
           clear hx hxo
           go_upto_region 13 with fail)
        | (obtain ⟨h0, i, r, wx, hi, hr, hneg, hri, hx, hxo⟩ := hA
           have hrl : -60000 ≤ r := by omega
           obtain ⟨ad, wy, rfl, hy, q0, q1, q2, qb, _, _⟩ := word_at HW1.out (Grew.refl _) (i := i) (by rw [← EN.out]; exact hi)
           rw [hx] at hy
           cases hy
           rw [hxo] at q2
           have hii : (i : Int) < ((n : Nat) : Int) := by omega
           clear hx hxo
           go_upto_region 13 with fail)
      all_goals
        try rw [hMc]
        clear hMc G2
        generalize w1.alloc (.cells #[.string ⟨#[32]⟩, .string ⟨#[9]⟩, .string ⟨#[10]⟩, .string ⟨#[13]⟩, .string ⟨#[32, 34, 97, 32, 39, 91, 32, 114, 101, 109, 97, 114, 107, 34, 32]⟩] 9) = w2 at *
        generalize w1.heap.size = gm at *
        generalize hxx : s.extract 0 en = x at *
        generalize hyy : s.extract en s.size = y at *
        generalize hzz : x ++ M = z at *
        generalize hNN : z ++ y = N at *
        obtain ⟨p1, hp1⟩ : ∃ p1 : Value, p1 = .int .i64 0 := ⟨_, rfl⟩
        obtain ⟨p2, hp2⟩ : ∃ p2 : Value, p2 = .nilIface := ⟨_, rfl⟩
        obtain ⟨P, hPP⟩ : ∃ P : Value → World → Prop, P = fun u w' => ∃ A c, u = .slice A n c ∧ WordsAt w' A (l.map (Lx.shiftAt en M.size)) := ⟨_, rfl⟩
        have HC := HC0
        rw [← hp1, ← hp2, ← hPP] at HC
        have HP : Hid (∀ (u : Value) (w1 w2 : World), P u w1 → Grew w1 w2 → P u w2) := hid (fun u w1 w2 h hg => by
          rw [hPP] at h ⊢
          obtain ⟨A, c, h1, h2⟩ := h
          exact ⟨A, c, h1, h2.grew hg⟩)
        have HPP := hid hPP
        have HP1 := hid hp1
        have HP2 := hid hp2
        clear hp1 hp2 hPP HC0
        have hmx : Tryd.prog.follows .mixedOrders = true := by kernel_rfl
        refine wp_region_facts (w0 := w2) w2 17 [61, 62, 63, 64, 65, 66, 67, 68, 69, 70, 60, 71, 72, 73, 13, 14, 15] [] (ApF s M x z y N en P p1 p2) hmx (by kernel_rfl) (Grew.refl _) (ApF.grew HP.out) ?_ ?_
        · repeat' (first | exact trivial | apply And.intro)
          all_goals
            intro a w' hgw hs hA
            have e0 := hs.eval 0 (by decide) (v := .string s) rfl
            have e10 := hs.eval 10 (by decide) (v := .int .i64 ((en : Nat) : Int)) rfl
            have e12 := hs.eval 12 (by decide) (v := .string M) rfl
            have HGW := hid (HG2.out.trans hgw)
            clear hs hgw
            simp only [Ahead, Region.binds, slotOf, ApF, List.getD_cons_succ, List.getD_cons_zero, forall_const, and_true, gcOff, textOff, Bool.false_eq_true, false_implies] at hA
            simp only [wantedD, if_true]
            unfold Oper.wp
            have ec : ∀ v, a.eval (.const v) = v := fun _ => rfl
            have ef : ∀ z, a.eval (.func z) = .func (.func z) #[] #[] := fun _ => rfl
            generalize hfe : a.eval = fe at *
            clear hfe
          · go_simp
            exact Gives.of' rfl (Grew.refl _) rfl
          · go_simp
            exact Gives.of' rfl (Grew.refl _) rfl
          · go_simp
            exact Gives.of' rfl (Grew.refl _) rfl
          · go_simp
            exact Gives.of' rfl (Grew.refl _) rfl
          · go_simp
            exact Gives.of' rfl (Grew.refl _) rfl
          · go_simp
            exact Gives.of' rfl (Grew.refl _) rfl
          · go_simp
            exact Gives.of' rfl (Grew.refl _) rfl
          · go_simp
            exact Gives.of' rfl (Grew.refl _) rfl
          · go_simp
            exact Gives.of' rfl (Grew.refl _) rfl
          · go_simp
            refine (HC.out _ HGW.out).mono ?_
            rintro e wy ⟨u, rfl, hu, hgy⟩
            exact Gives.of' rfl hgy ⟨u, rfl, hu⟩
          · obtain ⟨u, hu, hp⟩ := hA
            have HPu := hid hp
            clear hp
            go_simp
            exact Gives.of' rfl (Grew.refl _) ⟨u, rfl, HPu.out⟩
          · obtain ⟨u, hu, hp⟩ := hA
            have HPu := hid hp
            clear hp
            go_simp
            exact Gives.of' rfl (Grew.refl _) HPu.out
          · obtain ⟨u, hu, hp⟩ := hA
            clear hp
            go_simp
            exact Gives.of' rfl (Grew.refl _) rfl
          · obtain ⟨u, hu, hp⟩ := hA
            clear hp
            go_simp
            exact Gives.of' rfl (Grew.refl _) rfl
          · have HPu := hid hA.1
            clear hA
            go_simp
            exact Gives.of' rfl (Grew.refl _) HPu.out
          · have h1 := hA.1
            clear hA
            go_simp
            exact Gives.of' rfl (Grew.refl _) rfl
          · have h1 := hA.1
            clear hA
            go_simp
            exact Gives.of' rfl (Grew.refl _) rfl
        intro a w3 hgw hs hf _ _
        have h14 := hf 14 (by decide)
        have h15 := hf 15 (by decide)
        have h16 := hf 16 (by decide)
        simp only [slotOf, ApF, List.getD_cons_succ, List.getD_cons_zero] at h14 h15 h16
        obtain ⟨fn, rfl, hft⟩ := hs.put
        rw [hft] at h14 h15 h16
        rw [HPP.out] at h14
        rw [HP1.out] at h15
        rw [HP2.out] at h16
        obtain ⟨A2, c2, h14, hm3⟩ := h14
        have HM3 := hid hm3
        have HG3 := hid (HG2.out.trans hgw)
        have HW3 := hid (HW1.out.grew ((Grew.trans HG12.out hgw)))
        clear hf hft hs hgw hm3
        simp only [List.drop_succ_cons, List.drop_zero, putAll, List.foldl_cons, List.foldl_nil, Act.put, List.setIfInBounds_toArray, List.set_cons_succ, List.set_cons_zero, h14, h15, h16]
        have HN0 := hid (fun W (hg : Grew w W) => show Calls Tryd.prog 10 #[.nilIface] W fun e w' => e = .returned (.int .i64 ((0 : Nat) : Int)) ∧ Grew W w' from num_c 0 W (HH.out.grew hg))
        clear h14 h15 h16
        go_wp2_with fail
        refine (HN0.out _ HG3.out).mono ?_
        rintro e w4 ⟨rfl, hg4⟩
        have HG4 := hid (HG3.out.trans hg4)
        have HM4 := hid (HM3.out.grew hg4)
        have HW4 := hid (HW3.out.grew hg4)
        clear hg4
        go_wp2_with fail
        refine (HN0.out _ HG4.out).mono ?_
        rintro e w5 ⟨rfl, hg5⟩
        have HG5 := hid (HG4.out.trans hg5)
        have HM5 := hid (HM4.out.grew hg5)
        have HW5 := hid (HW4.out.grew hg5)
        clear hg5
        go_wp2_with fail
        go_loopw [16] (fun s16 wr => ∃ j : Nat, s16 = .int .i64 ((j : Nat) : Int) ∧ j ≤ n ∧ Hid (Grew w5 wr)) (fun s16 _ => n - (intOf s16).toNat)
        case atStart => exact ⟨0, rfl, Nat.zero_le _, hid (Grew.refl _)⟩
        case round =>
          obtain ⟨j, rfl, hj, HG⟩ := hrel
          obtain ⟨y0, rfl⟩ := HG.out
          by_cases hlt : j < n
          · have f2 : (j : Int) < n := by omega
            try (exfalso; omega)
            all_goals
              obtain ⟨ad1, vx, e1, hvx, p0, p1, p2, pb, _, _⟩ := word_at HW5.out (Grew.refl _) (i := j) (by rw [← EN.out]; exact hlt)
              obtain ⟨ad2, vy, rfl, hvy, m0, m1, m2, mb, _, _⟩ := word_at HM5.out (Grew.refl _) (i := j) (by rw [List.length_map, ← EN.out]; exact hlt)
              obtain ⟨ox, hox, hox2⟩ := ok_place HL.out hvx
              rw [List.getElem?_map, hvx, Option.map_some] at hvy
              cases hvy
              first
              | subst e1
              | (cases e1)
              obtain ⟨vk, vs, vo⟩ := vx
              simp only at hox p0 p1 p2
              subst hox
              by_cases hge : en ≤ ox
              · have hsh : Lx.shiftAt en M.size ⟨vk, vs, ((ox : Nat) : Int)⟩ = ⟨vk, vs, ((ox : Nat) : Int) + ((M.size : Nat) : Int)⟩ := by
                  unfold Lx.shiftAt
                  rw [if_pos (by simp only; omega)]
                  rfl
                rw [hsh] at m0 m1 m2
                simp only at m0 m1 m2
                clear hsh hvx
                have f3 : ((en : Nat) : Int) ≤ ((ox : Nat) : Int) := by omega
                go_wp2_with fail
                refine wp_region_grew_from y0.grew (by kernel_rfl) (by kernel_rfl) ?_
                repeat (go_big_quiet_step (fail))
                refine wpQuiet_nil ?_
                rintro _ ⟨y4, rfl⟩
                have HGz := hid y4.grew
                go_wp2_with fail
                go_round
                case rel => exact ⟨j + 1, by go_num, by omega, HGz⟩
                case measure => simp [intOf]; omega
              · have hsh : Lx.shiftAt en M.size ⟨vk, vs, ((ox : Nat) : Int)⟩ = ⟨vk, vs, ((ox : Nat) : Int)⟩ := by
                  unfold Lx.shiftAt
                  rw [if_neg (by simp only; omega)]
                rw [hsh] at m0 m1 m2
                simp only at m0 m1 m2
                clear hsh hvx
                have f3 : ¬ ((en : Nat) : Int) ≤ ((ox : Nat) : Int) := by omega
                go_wp2_with fail
                refine wp_region_grew_from y0.grew (by kernel_rfl) (by kernel_rfl) ?_
                repeat (go_big_quiet_step (fail))
                refine wpQuiet_nil ?_
                rintro _ ⟨y4, rfl⟩
                have HGz := hid y4.grew
                go_wp2_with fail
                go_round
                case rel => exact ⟨j + 1, by go_num, by omega, HGz⟩
                case measure => simp [intOf]; omega
          · have hin : n = j := by omega
            subst hin
            go_wp2_with fail
            refine (HS.out _ (HG5.out.trans HG.out)).mono ?_
            rintro e w6 ⟨rfl, hg6⟩
            have HG6 := hid ((HG5.out.trans HG.out).trans hg6)
            clear hg6
            go_wp2_with fail
            go_ret
            exact ⟨rfl, HG6.out⟩
end Go.Proofs.YtdfahmppbfjbhaaDoor

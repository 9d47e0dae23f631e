/- Stage 7: the program's own Decode. -/
import Derived.Test.YtilikjfjbnabfaaGreatDoorOp13
namespace Go.Proofs.YtilikjfjbnabfaaGreatDoor
open Go.RowKit

def ODecPost (w : World) (r : List Op7.Ins × List Nat × Nat) (e : Ending) (w' : World) : Prop :=
  ∃ A1 c1 A2 c2 L, e = .returned (.tuple #[.slice A1 (List.length L) c1, .slice A2 (List.length L) c2, errVal r.2.2]) ∧ L = r.1 ∧ RowI 51 w' w.heap.size A1 c1 L ∧ RowN w' w.heap.size A2 c2 r.2.1 ∧ Grew w w'
theorem ODecPost.none {w w' : World} {r : List Op7.Ins × List Nat × Nat} {k : Nat} (hr : r = ([], [], k)) (hg : Grew w w') : ODecPost w r (.returned (.tuple #[.slice none 0 0, .slice none 0 0, errVal k])) w' := by
  subst hr
  exact ⟨Option.none, 0, Option.none, 0, [], rfl, rfl, RowI.nil _ _ _, RowN.nil _ _, hg⟩
/-- 'get' on an instruction's bytes. -/
theorem get_at (ad : Addr) (bs : List Nat) (i x : Nat) (w : World) (hT : TabAt w) (hx : bs[i]? = some x) (h21 : x < 21) (hs : i + Op7.size x ≤ bs.length) (hb : ∀ z ∈ bs, z < 256) (h : NumsAt .u8 w w.heap.size (some ad) bs) (k : Nat) (hk : Op7.size x ≤ k) (hk2 : k ≤ 9223372036854775807) :
    Calls Tryz.prog 60 #[.slice (some (ad.add i)) (Op7.size x) k] w (fun e w' => e = .returned (.agg (opCells (Op7.insAt bs i x))) ∧ Grew w w') := by
  obtain ⟨e1, e2, e3, e4⟩ := Op7.insAt_row hx hs
  have hp := Op7.size_pos x
  have hn : NumsAt .u8 w w.heap.size (some (ad.add i)) (x :: (bs.drop (i + 1)).take (Op7.size x - 1)) := by
    rw [← e1]
    exact (h.dropA i).take _
  have := get_c (ad.add i) k x ((bs.drop (i + 1)).take (Op7.size x - 1)) w h21 hT (by omega) (by omega) hk2 (fun z hz => hb z (List.mem_of_mem_drop (List.mem_of_mem_take hz))) hn
  rw [e3, e4, e2, show 1 + (Op7.size x - 1) = Op7.size x by omega] at this
  exact this
set_option maxRecDepth 100000 in
set_option maxHeartbeats 2000000 in
theorem odecode_c (A : Option Addr) (c : Nat) (bs : List Nat) (w : World) (h : BytesAt w w.heap.size A bs) (hT : TabAt w) (hc : bs.length ≤ c) (hc2 : c ≤ 9223372036854775807) :
    Calls Tryz.prog 40 #[.slice A bs.length c] w (ODecPost w (Op7.decR bs)) := by
  have HA := hid h
  have HT := hid hT
  obtain ⟨n, en⟩ : ∃ n, n = bs.length := ⟨_, rfl⟩
  rw [← en] at hc ⊢
  have EN := hid en
  clear h hT en
  by_cases h5 : 512 < n
  · have f5 : (512 : Int) < n := by omega
    have HR := hid (Op7.decR_long (b := bs) (by rw [← EN.out]; exact h5))
    go_enter Tryz.func40, Tryz.ntmps40
    go_wp2_with fail
    go_ret3
    exact ODecPost.none HR.out (Grew.refl _)
  have f5 : (n : Int) ≤ 512 := by omega
  have H5 := hid (show ¬ 512 < bs.length by rw [← EN.out]; exact h5)
  go_enter Tryz.func40, Tryz.ntmps40
  go_wp2_with fail
  go_loopw [5, 6, 7] (fun s5 s6 s7 wr => ∃ (i : Nat) (A1 : Option Addr) (c1 : Nat) (A2 : Option Addr) (c2 : Nat) (L : List Op7.Ins), s5 = .slice A1 L.length c1 ∧ s6 = .slice A2 L.length c2 ∧ s7 = .int .i64 ((i : Nat) : Int) ∧ i ≤ n ∧ L.length ≤ i ∧ Grew w wr ∧ Hid (Op7.Done bs i L ∧ RowI 51 wr w.heap.size A1 c1 L ∧ RowN wr w.heap.size A2 c2 (Op7.offs L) ∧ Apart A1 A2)) (fun _ _ s7 _ => n - (intOf s7).toNat)
  case atStart => exact ⟨0, none, 0, none, 0, [], rfl, rfl, rfl, Nat.zero_le _, Nat.zero_le _, Grew.refl _, hid ⟨Op7.done_start bs, RowI.nil _ _ _, RowN.nil _ _, by rintro k ⟨_, h, _⟩; cases h⟩⟩
  case round =>
    obtain ⟨i, A1, c1, A2, c2, L, rfl, rfl, rfl, hi, hL, hg, H⟩ := hrel
    have HG := hid hg
    clear hg
    by_cases hlt : i < n
    · have f1 : (i : Int) < n := by omega
      obtain ⟨ad, rfl, hb, hcc⟩ := HA.out.2 (by rw [← EN.out]; omega)
      obtain ⟨x, hx⟩ : ∃ x, bs[i]? = some x := ⟨_, List.getElem?_eq_getElem (show i < bs.length by rw [← EN.out]; exact hlt)⟩
      have q := hcc i (by rw [← EN.out]; exact hlt)
      rw [show bs.getD i 0 = x by rw [List.getD_eq_getElem?_getD, hx]; rfl, ← HG.out.below.cell (by rw [block_add]; exact hb)] at q
      have hx2 := HA.out.1 x (List.mem_of_getElem? hx)
      have HS := hid (osize_c x wr hx2 (HT.out.grew HG.out))
      by_cases hok : x < 21 ∧ i + Op7.size x ≤ n
      · obtain ⟨h21, hs⟩ := hok
        rw [if_pos h21] at HS
        have HP := hid (fun w' (hg : Grew w w') k hk hk2 => get_at ad bs i x w' (HT.out.grew hg) hx h21 (by rw [← EN.out]; exact hs) HA.out.1 ((NumsAt.of_bytes HA.out).grew hg) k hk hk2)
        have HD := hid (Op7.done_next H.out.1 hx h21 (by rw [← EN.out]; exact hs))
        have HC : Hid ((Op7.insAt bs i x).code < 256) := hid hx2
        have hz1 := Op7.size_pos x
        have hz5 := Op7.size_le x
        generalize Op7.size x = sz at *
        generalize hp : Op7.insAt bs i x = p at *
        clear hp hx hcc
        obtain ⟨xp, ap, bp⟩ := p
        unfold opCells at HP
        simp only at HP
        have g1 : ((sz : Int) == 0) = false := by rw [beq_eq_false_iff_ne]; omega
        have g2 : ¬ ((n : Int) - i < sz) := by omega
        go_wp2_with fail
        refine HS.out.mono ?_
        rintro e w2 ⟨rfl, hg2⟩
        have HG2 := hid hg2
        clear hg2
        go_wp2_with fail
        refine (HP.out _ (HG.out.trans HG2.out) _ (by omega) (by omega)).mono ?_
        rintro e w3 ⟨rfl, hg3⟩
        have HGr := hid (HG2.out.trans hg3)
        have HG3 := hid (HG.out.trans HGr.out)
        have HI3 := hid (H.out.2.1.grew HGr.out)
        have HN3 := hid (H.out.2.2.1.grew HGr.out)
        have hol := hid (Op7.offs_len L)
        clear hg3 HP HS q
        go_wp2_with (at_builtin; first
          | (refine wpList_pushI 52 51 (.agg #[.int .u8 0, .int .i64 0, .int .i64 0]) rfl Tryz.underlying52 op_ins w3 rfl _ _ rfl w.heap.size HG3.out.below.size A1 c1 L rfl HI3.out ⟨xp, ap, bp⟩ HC.out _ rfl rfl _ rfl (by omega) ?_; rintro A4 c4 M4 W4 hM4 hO4 hK4 hT4; have HK4 := hid hK4; have HT4 := hid hT4; have HO4 := hid hO4; clear hK4 hT4 hO4)
          | (refine wpList_pushN W4 rfl _ _ rfl w.heap.size (Nat.le_trans HG3.out.below.size HK4.out.size) A2 c2 (Op7.offs L) _ hol.out.symm rfl (Row.kept HN3.out HK4.out (Apart.far H.out.2.2.2)) i _ rfl rfl _ rfl (by omega) ?_; rintro A5 c5 W5 hO5 hK5 hT5; have HK5 := hid hK5; have HT5 := hid hT5; have HO5 := hid hO5; clear hK5 hT5 hO5))
        have HAp := hid (Apart.to H.out.2.2.2 (RowTo.next (.inl rfl) HGr.out.below.size HT4.out) (fun k hk => Row.at_lt H.out.2.2.1 k hk))
        have HAq := hid (Apart.to HAp.out.symm HT5.out (fun k hk => Row.at_lt HO4.out.1 k hk)).symm
        go_round
        case rel => exact ⟨i + sz, A4, c4, A5, c5, M4, rfl, by rw [hM4.out, List.length_append]; rfl, by go_num, by omega, by rw [hM4.out, List.length_append]; simp; omega, (HK5.out.grew (HK4.out.grew HG3.out (Row.at_base HI3.out.1)) (Row.at_base HN3.out)), hid ⟨by rw [hM4.out]; exact HD.out, ⟨HO4.out.1.kept HK5.out (Apart.far HAp.out.symm), HO4.out.2⟩, by rw [hM4.out, Op7.offs_snoc, ← H.out.1.2.1]; exact HO5.out, HAq.out⟩⟩
        case measure => simp [intOf]; omega
      · have HR := hid (Op7.done_none H.out.1 hx (by rw [← EN.out]; exact hok) H5.out)
        have hz1 := Op7.size_pos x
        by_cases h21 : x < 21
        · rw [if_pos h21] at HS
          have hs : ¬ (i + Op7.size x ≤ n) := fun h => hok ⟨h21, h⟩
          have hz5 := Op7.size_le x
          clear hok hx hcc
          generalize Op7.size x = sz at *
          have g1 : ((sz : Int) == 0) = false := by rw [beq_eq_false_iff_ne]; omega
          have g2 : ((n : Int) - i < sz) := by omega
          go_wp2_with fail
          refine HS.out.mono ?_
          rintro e w2 ⟨rfl, hg2⟩
          go_wp2_with fail
          go_ret3
          exact ODecPost.none HR.out (HG.out.trans hg2)
        · rw [if_neg h21] at HS
          clear hok hx hcc
          go_wp2_with fail
          refine HS.out.mono ?_
          rintro e w2 ⟨rfl, hg2⟩
          go_wp2_with fail
          go_ret3
          exact ODecPost.none HR.out (HG.out.trans hg2)
    · have hin : i = n := by omega
      subst hin
      have HR := hid (show Op7.decR bs = (L, Op7.offs L, 0) from Op7.done_end (by have := H.out.1; rw [EN.out] at this; exact this) H5.out)
      go_wp2_with fail
      go_ret3
      exact ⟨A1, c1, A2, c2, L, by rw [HR.out]; rfl, by rw [HR.out], H.out.2.1, by rw [HR.out]; exact H.out.2.2.1, HG.out⟩
end Go.Proofs.YtilikjfjbnabfaaGreatDoor

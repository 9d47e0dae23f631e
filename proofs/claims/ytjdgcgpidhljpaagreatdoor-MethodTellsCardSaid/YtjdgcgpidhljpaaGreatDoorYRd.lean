/- Parts of elder texts that this layer needs, joined: XRdOp. -/
import Derived.Test.YtjdgcgpidhljpaaGreatDoorYOpM
import Derived.Test.YtjdgcgpidhljpaaGreatDoorYOpD
import Derived.IntWalk
namespace Go.Proofs.YtjdgcgpidhljpaaGreatDoor.Op7
open Go.RowKit

theorem un_snoc {l : List Nat} (c : Nat) (h : l.length ≤ 1) : un (l ++ [c]) = 256 * un l + c := by
  match l, h with
  | [], _ => simp [un]
  | [x], _ => simp [un]
theorem un_lt {l : List Nat} (h : l.length ≤ 2) (hb : ∀ x ∈ l, x < 256) : un l < 65536 := by
  match l, h with
  | [], _ => simp [un]
  | [x], _ => have := hb x (by simp); simp only [un]; omega
  | [x, y], _ =>
    have h1 := hb x (by simp)
    have h2 := hb y (by simp)
    simp only [un]; omega
/-- The operands of 'x' widths as far as 'm' bytes of 'r' tell. -/
def partA (x m : Nat) (r : List Nat) : Nat := un ((r.take m).take x)
def partB (x m : Nat) (r : List Nat) : Nat := un ((r.take m).drop x)
theorem part_0 (x : Nat) (r : List Nat) : partA x 0 r = 0 ∧ partB x 0 r = 0 := by simp [partA, partB, un]
theorem part_lo {x m c : Nat} {r : List Nat} (hx : x ≤ 2) (hm : m < x) (hc : r[m]? = some c) : partA x (m + 1) r = 256 * partA x m r + c ∧ partB x (m + 1) r = partB x m r := by
  have hl : m < r.length := (List.getElem?_eq_some_iff.1 hc).1
  have e : r.take (m + 1) = r.take m ++ [c] := by rw [List.take_add_one, hc]; rfl
  have l1 : (r.take m).length = m := by rw [List.length_take]; omega
  have l2 : (r.take (m + 1)).length = m + 1 := by rw [List.length_take]; omega
  unfold partA partB
  rw [List.take_of_length_le (by omega : (r.take (m + 1)).length ≤ x), List.take_of_length_le (by omega : (r.take m).length ≤ x), List.drop_eq_nil_of_le (by omega : (r.take (m + 1)).length ≤ x), List.drop_eq_nil_of_le (by omega : (r.take m).length ≤ x), e, un_snoc c (by omega)]
  exact ⟨rfl, rfl⟩
theorem part_hi {x y m c : Nat} {r : List Nat} (hy : y ≤ 2) (hm : x ≤ m) (hm2 : m < x + y) (hc : r[m]? = some c) : partA x (m + 1) r = partA x m r ∧ partB x (m + 1) r = 256 * partB x m r + c := by
  have hl : m < r.length := (List.getElem?_eq_some_iff.1 hc).1
  have e : r.take (m + 1) = r.take m ++ [c] := by rw [List.take_add_one, hc]; rfl
  have l1 : (r.take m).length = m := by rw [List.length_take]; omega
  unfold partA partB
  rw [e, List.take_append_of_le_length (by omega), List.drop_append_of_le_length (by omega), un_snoc c (by rw [List.length_drop]; omega)]
  exact ⟨rfl, rfl⟩
theorem part_all (x y : Nat) (r : List Nat) : partA x (x + y) r = un (r.take x) ∧ partB x (x + y) r = un ((r.drop x).take y) := by
  unfold partA partB
  rw [List.take_take, show min x (x + y) = x by omega, List.drop_take, show x + y - x = y by omega]
  exact ⟨rfl, rfl⟩
theorem part_lt {x y m : Nat} {r : List Nat} (hx : x ≤ 2) (hy : y ≤ 2) (hm : m ≤ x + y) (hb : ∀ z ∈ r, z < 256) : partA x m r < 65536 ∧ partB x m r < 65536 :=
  ⟨un_lt (by rw [List.length_take]; omega) (fun z hz => hb z (List.mem_of_mem_take (List.mem_of_mem_take hz))), un_lt (by rw [List.length_drop, List.length_take]; omega) (fun z hz => hb z (List.mem_of_mem_take (List.mem_of_mem_drop hz)))⟩
end Go.Proofs.YtjdgcgpidhljpaaGreatDoor.Op7
namespace Go.Proofs.YtjdgcgpidhljpaaGreatDoor
open Go.RowKit

theorem ref_ins : (Tryz.prog.info? 98).map (fun i => (i.zero, i.size, i.bytes)) = some (some (.agg #[.int .u8 0, .int .i64 0, .int .i64 0]), 3, 24) := by kernel_rfl
def RDecPost (w : World) (r : List Op7.Ins × List Nat × Nat) (e : Ending) (w' : World) : Prop :=
  ∃ A1 c1 A2 c2 L, e = .returned (.tuple #[.slice A1 (List.length L) c1, .slice A2 (List.length L) c2, .int .i64 ((r.2.2 : Nat) : Int)]) ∧ L = r.1 ∧ RowI 98 w' w.heap.size A1 c1 L ∧ RowN w' w.heap.size A2 c2 r.2.1 ∧ Grew w w'
theorem RDecPost.none {w w' : World} {r : List Op7.Ins × List Nat × Nat} {k : Nat} (hr : r = ([], [], k)) (hg : Grew w w') : RDecPost w r (.returned (.tuple #[.slice none 0 0, .slice none 0 0, .int .i64 ((k : Nat) : Int)])) w' := by
  subst hr
  exact ⟨Option.none, 0, Option.none, 0, [], rfl, rfl, RowI.nil _ _ _, RowN.nil _ _, hg⟩
set_option maxRecDepth 100000 in
set_option maxHeartbeats 4000000 in
theorem rdecode_c (A : Option Addr) (c : Nat) (bs : List Nat) (w : World) (h : BytesAt w w.heap.size A bs) (hc : bs.length ≤ c) (hl : bs.length ≤ 1000000) :
    Calls Tryz.prog 39 #[.slice A bs.length c] w (RDecPost w (Op7.decR bs)) := by
  have HA := hid h
  obtain ⟨n, en⟩ : ∃ n, n = bs.length := ⟨_, rfl⟩
  rw [← en] at hc hl ⊢
  have EN := hid en
  clear h en
  by_cases h5 : 512 < n
  · have f5 : (512 : Int) < n := by omega
    have HR := hid (Op7.decR_long (b := bs) (by rw [← EN.out]; exact h5))
    go_enter Tryz.func39, Tryz.ntmps39
    go_wp2_with fail
    go_ret3
    exact RDecPost.none HR.out (Grew.refl _)
  have f5 : (n : Int) ≤ 512 := by omega
  have H5 := hid (show ¬ 512 < bs.length by rw [← EN.out]; exact h5)
  go_enter Tryz.func39, Tryz.ntmps39
  go_wp2_with fail
  go_loopw [5, 6, 7] (fun s5 s6 s7 wr => ∃ (i : Nat) (A1 : Option Addr) (c1 : Nat) (A2 : Option Addr) (c2 : Nat) (L : List Op7.Ins), s5 = .slice A1 L.length c1 ∧ s6 = .slice A2 L.length c2 ∧ s7 = .int .i64 ((i : Nat) : Int) ∧ i ≤ n ∧ L.length ≤ i ∧ Grew w wr ∧ Hid (Op7.Done bs i L ∧ RowI 98 wr w.heap.size A1 c1 L ∧ RowN wr w.heap.size A2 c2 (Op7.offs L) ∧ Apart A1 A2)) (fun _ _ s7 _ => n - (intOf s7).toNat)
  case atStart => exact ⟨0, none, 0, none, 0, [], rfl, rfl, rfl, Nat.zero_le _, Nat.zero_le _, Grew.refl _, hid ⟨Op7.done_start bs, RowI.nil _ _ _, RowN.nil _ _, by rintro k ⟨_, h, _⟩; cases h⟩⟩
  case round =>
    obtain ⟨i, A1, c1, A2, c2, L, rfl, rfl, rfl, hi, hL, hg, H⟩ := hrel
    have HG := hid hg
    clear hg
    by_cases hlt : i < n
    · have f1 : (i : Int) < n := by omega
      obtain ⟨ad, rfl, hb, hcc⟩ := HA.out.2 (by rw [← EN.out]; omega)
      obtain ⟨x, hx⟩ : ∃ x, bs[i]? = some x := ⟨_, List.getElem?_eq_getElem (show i < bs.length by rw [← EN.out]; exact hlt)⟩
      have q := hcc i (by rw [← EN.out]; exact hlt)
      rw [show bs.getD i 0 = x by rw [List.getD_eq_getElem?_getD, hx]; rfl] at q
      have hq2 := q
      rw [← HG.out.below.cell (by rw [block_add]; exact hb)] at q
      have hx2 := HA.out.1 x (List.mem_of_getElem? hx)
      have HS := hid (size_c x wr hx2)
      by_cases hok : x < 21 ∧ i + Op7.size x ≤ n
      · obtain ⟨h21, hs⟩ := hok
        rw [if_pos h21] at HS
        have HF := hid (fun w' => form_of x w' hx2)
        rw [decide_eq_true h21] at HF
        have HW := hid (wide_of x)
        have HD := hid (Op7.done_next H.out.1 hx h21 (by rw [← EN.out]; exact hs))
        have hw2 := Op7.wid_le x
        have HSZ := hid (show Op7.size x = 1 + (Op7.wid x).1 + (Op7.wid x).2 from rfl)
        have hz1 := Op7.size_pos x
        have hz5 := Op7.size_le x
        have HIN := hid (show Op7.insAt bs i x = ⟨x, (Op7.partA (Op7.wid x).1 ((Op7.wid x).1 + (Op7.wid x).2) (bs.drop (i + 1)) : Nat), (Op7.partB (Op7.wid x).1 ((Op7.wid x).1 + (Op7.wid x).2) (bs.drop (i + 1)) : Nat)⟩ by
          rw [(Op7.part_all _ _ _).1, (Op7.part_all _ _ _).2]; rfl)
        have HB := hid (fun m (hm : m < (Op7.wid x).1 + (Op7.wid x).2) => (⟨_, List.getElem?_eq_getElem (by rw [List.length_drop, ← EN.out]; have := HSZ.out; omega)⟩ : ∃ z, (bs.drop (i + 1))[m]? = some z))
        have HBB := hid (fun z hz => HA.out.1 z (List.mem_of_mem_drop hz) : ∀ z ∈ bs.drop (i + 1), z < 256)
        have HBC := hid (fun m z (hz : (bs.drop (i + 1))[m]? = some z) => (show w.cell? (ad.add (i + (m + 1))) = some (.int .u8 ((z : Nat) : Int)) by
          rw [List.getElem?_drop] at hz
          have hlt' := (List.getElem?_eq_some_iff.1 hz).1
          rw [hcc (i + (m + 1)) (by omega), List.getD_eq_getElem?_getD, show i + (m + 1) = i + 1 + m by omega, hz]; rfl))
        clear hcc hx
        generalize hin : Op7.insAt bs i x = p at *
        clear hin
        generalize bs.drop (i + 1) = r at *
        generalize Op7.size x = sz at *
        generalize (Op7.wid x).1 = x1 at *
        generalize (Op7.wid x).2 = y1 at *
        generalize formB x = fs at *
        have g1 : ((sz : Int) == 0) = false := by rw [beq_eq_false_iff_ne]; omega
        have g2 : (i : Int) + sz ≤ n := by omega
        have hb2 : ad.block < wr.heap.size := Nat.lt_of_lt_of_le hb HG.out.below.size
        go_wp2_with fail
        refine (Calls.after (Grew.refl _) HS.out).mono ?_
        rintro e w2 ⟨rfl, y2, rfl⟩
        go_wp2_with fail
        refine (Calls.after y2.grew (HF.out _)).mono ?_
        rintro e w3 ⟨rfl, y3, rfl⟩
        go_wp2_with fail
        refine (Calls.after y3.grew (HW.out _)).mono ?_
        rintro e w4 ⟨rfl, y4, rfl⟩
        have q4 : (y4.w).cell? (ad.add i) = some (.int .u8 ((x : Nat) : Int)) := by rw [(HG.out.trans y4.grew).below.cell (by rw [block_add]; exact hb)]; exact hq2
        have HG4 := hid (HG.out.trans y4.grew)
        have HI4 := hid (H.out.2.1.grew y4.grew)
        have HN4 := hid (H.out.2.2.1.grew y4.grew)
        have HY4 := hid y4.grew
        generalize hw4 : y4.w = w4 at *
        clear hw4 y4 HW HF HS q hq2
        go_wp2_with fail
        have HB4 := hid (Blk.new w4 98 #[.int .u8 ((x : Nat) : Int), .int .i64 0, .int .i64 0])
        go_loopw [14] (fun s14 ws => ∃ (m a b : Nat), s14 = .int .i64 ((m + 1 : Nat) : Int) ∧ m + 1 ≤ sz ∧ a < 65536 ∧ b < 65536 ∧ Grew w4 ws ∧ Hid (Blk ws w4.heap.size 98 #[.int .u8 ((x : Nat) : Int), .int .i64 ((a : Nat) : Int), .int .i64 ((b : Nat) : Int)] ∧ a = Op7.partA x1 m r ∧ b = Op7.partB x1 m r)) (fun s14 _ => sz - (intOf s14).toNat)
        case atStart =>
          exact ⟨0, 0, 0, rfl, by omega, by decide, by decide, (Grew.refl _).alloc _, hid ⟨HB4.out, (Op7.part_0 x1 r).1.symm, (Op7.part_0 x1 r).2.symm⟩⟩
        case round =>
          obtain ⟨m, a, b, rfl, hm, ha, hb', hg5, H5b⟩ := hrel
          have HG5 := hid hg5
          clear hg5 HB4 q4
          by_cases hlt2 : m + 1 < sz
          · have hmx : m < x1 + y1 := by have := HSZ.out; omega
            obtain ⟨z, hz⟩ := HB.out m hmx
            have hzb := HBB.out z (List.mem_of_getElem? hz)
            have hlt3 := hid (Op7.part_lt (m := m + 1) hw2.1 hw2.2 (by omega) HBB.out)
            have HB6 := hid H5b.out.1
            have q6 := HBC.out m z hz
            rw [← (HG4.out.trans HG5.out).below.cell (by rw [block_add]; exact hb)] at q6
            have f2 : (m : Int) + 1 < sz := by omega
            have f3 : (i : Int) + (m + 1) < n := by omega
            by_cases hmx1 : m < x1
            · have hpp := hid (Op7.part_lo hw2.1 hmx1 hz)
              have f4 : (m : Int) + 1 ≤ x1 := by omega
              clear hz
              go_wp2_with fail
              refine wp_region_still_tail 12 (by kernel_rfl) (by kernel_rfl) ?_
              simp only [List.take_succ_cons, List.take_zero, List.drop_succ_cons, List.drop_zero]
              change wpStill Tryz.prog _ wr.drew (fun a' => wpList Tryz.prog _ _ _ a' wr.drew) _ _
              replace HB6 := hid (HB6.out.grew (Grew.refl wr).drew)
              have HG6 := hid HG5.out.drew
              rw [show wr.cell? (ad.add (i + (m + 1))) = wr.drew.cell? (ad.add (i + (m + 1))) from rfl] at q6
              generalize wr.drew = w6 at HB6 HG6 q6 ⊢
              have p1 := HB6.out.cell 1
              have p2 := HB6.out.cell 2
              have r1 := HB6.out.frozen 1
              have r2 := HB6.out.frozen 2
              simp only [List.getElem?_toArray, List.getElem?_cons_zero, List.getElem?_cons_succ] at p1 p2
              have t2 : 0 ≤ (i : Int) + ((m : Int) + 1) := by omega
              have t1 : IntKind.i64.wrap ((i : Int) + ((m : Int) + 1)) = (i : Int) + ((m : Int) + 1) := IntWalk.i64_in _ (by omega)
              have t4 : IntKind.i64.wrap (256 * (a : Int)) = 256 * (a : Int) := IntWalk.i64_in _ (by omega)
              have t5 : IntKind.i64.wrap (256 * (a : Int) + (z : Int)) = 256 * (a : Int) + (z : Int) := IntWalk.i64_in _ (by omega)
              have t3 : ((i : Int) + ((m : Int) + 1)).toNat = i + (m + 1) := by omega
              repeat still_step
              refine wpStill_nil ?_
              go_wp2_with fail
              have HBN := hid (HB6.out.put 1 (.int .i64 (256 * (a : Int) + (z : Int))))
              simp only [List.setIfInBounds_toArray, List.set_cons_succ, List.set_cons_zero] at HBN
              clear t1 t2 t3 t4 t5 p1 p2 r1 r2 q6
              go_round
              case rel => exact ⟨m + 1, 256 * a + z, b, by go_num, by omega, by have := hlt3.out.1; rw [hpp.out.1, ← H5b.out.2.1] at this; exact this, hb', HG6.out.setCell (Nat.le_refl _) _, hid ⟨by rw [Int.natCast_add, Int.natCast_mul]; exact HBN.out, by rw [hpp.out.1, ← H5b.out.2.1], by rw [hpp.out.2]; exact H5b.out.2.2⟩⟩
              case measure => simp [intOf]; omega
            · have hpp := hid (Op7.part_hi hw2.2 (Nat.not_lt.1 hmx1) hmx hz)
              have f4 : ¬ (m : Int) + 1 ≤ x1 := by omega
              clear hz
              go_wp2_with fail
              refine wp_region_still_tail 12 (by kernel_rfl) (by kernel_rfl) ?_
              simp only [List.take_succ_cons, List.take_zero, List.drop_succ_cons, List.drop_zero]
              change wpStill Tryz.prog _ wr.drew (fun a' => wpList Tryz.prog _ _ _ a' wr.drew) _ _
              replace HB6 := hid (HB6.out.grew (Grew.refl wr).drew)
              have HG6 := hid HG5.out.drew
              rw [show wr.cell? (ad.add (i + (m + 1))) = wr.drew.cell? (ad.add (i + (m + 1))) from rfl] at q6
              generalize wr.drew = w6 at HB6 HG6 q6 ⊢
              have p1 := HB6.out.cell 1
              have p2 := HB6.out.cell 2
              have r1 := HB6.out.frozen 1
              have r2 := HB6.out.frozen 2
              simp only [List.getElem?_toArray, List.getElem?_cons_zero, List.getElem?_cons_succ] at p1 p2
              have t2 : 0 ≤ (i : Int) + ((m : Int) + 1) := by omega
              have t1 : IntKind.i64.wrap ((i : Int) + ((m : Int) + 1)) = (i : Int) + ((m : Int) + 1) := IntWalk.i64_in _ (by omega)
              have t4 : IntKind.i64.wrap (256 * (b : Int)) = 256 * (b : Int) := IntWalk.i64_in _ (by omega)
              have t5 : IntKind.i64.wrap (256 * (b : Int) + (z : Int)) = 256 * (b : Int) + (z : Int) := IntWalk.i64_in _ (by omega)
              have t3 : ((i : Int) + ((m : Int) + 1)).toNat = i + (m + 1) := by omega
              repeat still_step
              refine wpStill_nil ?_
              go_wp2_with fail
              have HBN := hid (HB6.out.put 2 (.int .i64 (256 * (b : Int) + (z : Int))))
              simp only [List.setIfInBounds_toArray, List.set_cons_succ, List.set_cons_zero] at HBN
              clear t1 t2 t3 t4 t5 p1 p2 r1 r2 q6
              go_round
              case rel => exact ⟨m + 1, a, 256 * b + z, by go_num, by omega, ha, by have := hlt3.out.2; rw [hpp.out.2, ← H5b.out.2.2] at this; exact this, HG6.out.setCell (Nat.le_refl _) _, hid ⟨by rw [Int.natCast_add, Int.natCast_mul]; exact HBN.out, by rw [hpp.out.1]; exact H5b.out.2.1, by rw [hpp.out.2, ← H5b.out.2.2]⟩⟩
              case measure => simp [intOf]; omega
          · have hms : m = x1 + y1 := by have := HSZ.out; omega
            have f2 : ¬ (m : Int) + 1 < sz := by omega
            have HP5 := hid (show p = ⟨x, (a : Nat), (b : Nat)⟩ by rw [HIN.out, H5b.out.2.1, H5b.out.2.2, hms])
            have p0 := H5b.out.1.cell 0
            have p1 := H5b.out.1.cell 1
            have p2 := H5b.out.1.cell 2
            simp only [List.getElem?_toArray, List.getElem?_cons_zero, List.getElem?_cons_succ] at p0 p1 p2
            have HG3 := hid (HG4.out.trans HG5.out)
            have HI3 := hid (HI4.out.grew HG5.out)
            have HN3 := hid (HN4.out.grew HG5.out)
            have hol := hid (Op7.offs_len L)
            clear hms HIN HB HBB HBC
            go_wp2_with (at_builtin; first
              | (refine wpList_pushI 93 98 (.agg #[.int .u8 0, .int .i64 0, .int .i64 0]) rfl Tryz.underlying93 ref_ins wr rfl _ _ rfl w.heap.size HG3.out.below.size A1 c1 L rfl HI3.out ⟨x, (a : Nat), (b : Nat)⟩ hx2 _ rfl rfl _ rfl (by omega) ?_; rintro A4 c4 M4 W4 hM4 hO4 hK4 hT4; have HK4 := hid hK4; have HT4 := hid hT4; have HO4 := hid hO4; clear hK4 hT4 hO4)
              | (refine wpList_pushN W4 rfl _ _ rfl w.heap.size (Nat.le_trans HG3.out.below.size HK4.out.size) A2 c2 (Op7.offs L) _ hol.out.symm rfl (Row.kept HN3.out HK4.out (Apart.far H.out.2.2.2)) i _ rfl rfl _ rfl (by omega) ?_; rintro A5 c5 W5 hO5 hK5 hT5; have HK5 := hid hK5; have HT5 := hid hT5; have HO5 := hid hO5; clear hK5 hT5 hO5))
            have HAp := hid (Apart.to H.out.2.2.2 (RowTo.next (.inl rfl) (HY4.out.trans HG5.out).below.size HT4.out) (fun k hk => Row.at_lt H.out.2.2.1 k hk))
            have HAq := hid (Apart.to HAp.out.symm HT5.out (fun k hk => Row.at_lt HO4.out.1 k hk)).symm
            go_round
            case rel => exact ⟨i + sz, A4, c4, A5, c5, M4, rfl, by rw [hM4.out, List.length_append]; rfl, by go_num, by omega, by rw [hM4.out, List.length_append]; simp; omega, (HK5.out.grew (HK4.out.grew HG3.out (Row.at_base HI3.out.1)) (Row.at_base HN3.out)), hid ⟨by rw [hM4.out, ← HP5.out]; exact HD.out, ⟨HO4.out.1.kept HK5.out (Apart.far HAp.out.symm), HO4.out.2⟩, by rw [hM4.out, Op7.offs_snoc, ← H.out.1.2.1]; exact HO5.out, HAq.out⟩⟩
            case measure => simp [intOf]; omega
      · have HR := hid (Op7.done_none H.out.1 hx (by rw [← EN.out]; exact hok) H5.out)
        have hz1 := Op7.size_pos x
        by_cases h21 : x < 21
        · rw [if_pos h21] at HS
          have hs : ¬ (i + Op7.size x ≤ n) := fun h => hok ⟨h21, h⟩
          have hz5 := Op7.size_le x
          clear hok hx hcc
          generalize Op7.size x = sz at *
          have g1 : ((sz : Int) == 0) = false := by rw [beq_eq_false_iff_ne]; omega
          have g2 : (n : Int) < (i : Int) + sz := by omega
          go_wp2_with fail
          refine HS.out.mono ?_
          rintro e w2 ⟨rfl, hg2⟩
          go_wp2_with fail
          go_ret3
          exact RDecPost.none HR.out (HG.out.trans hg2)
        · rw [if_neg h21] at HS
          clear hok hx hcc
          go_wp2_with fail
          refine HS.out.mono ?_
          rintro e w2 ⟨rfl, hg2⟩
          go_wp2_with fail
          go_ret3
          exact RDecPost.none HR.out (HG.out.trans hg2)
    · have hin : i = n := by omega
      subst hin
      have HR := hid (show Op7.decR bs = (L, Op7.offs L, 0) from Op7.done_end (by have := H.out.1; rw [EN.out] at this; exact this) H5.out)
      go_wp2_with fail
      go_ret3
      exact ⟨A1, c1, A2, c2, L, by rw [HR.out]; rfl, by rw [HR.out], H.out.2.1, by rw [HR.out]; exact H.out.2.2.1, HG.out⟩
end Go.Proofs.YtjdgcgpidhljpaaGreatDoor

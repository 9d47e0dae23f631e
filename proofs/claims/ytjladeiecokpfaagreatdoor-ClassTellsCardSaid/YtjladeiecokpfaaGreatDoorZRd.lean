/- Parts of elder texts that this layer needs, joined: XYRd XYRc. -/
import Derived.Test.YtjladeiecokpfaaGreatDoorZOpM
import Derived.Test.YtjladeiecokpfaaGreatDoorZOpC
import Derived.IntWalk
import Derived.Test.YtjladeiecokpfaaGreatDoorZFlC
import Derived.ArgAppend
namespace Go.Proofs.YtjladeiecokpfaaGreatDoor.Op7
open Go.RowKit

theorem un_snoc {l : List Nat} (c : Nat) (h : l.length ≤ 1) : un (l ++ [c]) = 256 * un l + c := by
  match l, h with
  | [], _ => simp [un]
  | [x], _ => simp [un]
theorem un_lt {l : List Nat} (h : l.length ≤ 2) (hb : ∀ x ∈ l, x < 256) : un l < 65536 := by
  match l, h with
  | [], _ => simp [un]
  | [x], _ => have := hb x (by simp); simp only [un]; omega
  | [x, y], _ =>
    have h1 := hb x (by simp)
    have h2 := hb y (by simp)
    simp only [un]; omega
/-- The operands of 'x' widths as far as 'm' bytes of 'r' tell. -/
def partA (x m : Nat) (r : List Nat) : Nat := un ((r.take m).take x)
def partB (x m : Nat) (r : List Nat) : Nat := un ((r.take m).drop x)
theorem part_0 (x : Nat) (r : List Nat) : partA x 0 r = 0 ∧ partB x 0 r = 0 := by simp [partA, partB, un]
theorem part_lo {x m c : Nat} {r : List Nat} (hx : x ≤ 2) (hm : m < x) (hc : r[m]? = some c) : partA x (m + 1) r = 256 * partA x m r + c ∧ partB x (m + 1) r = partB x m r := by
  have hl : m < r.length := (List.getElem?_eq_some_iff.1 hc).1
  have e : r.take (m + 1) = r.take m ++ [c] := by rw [List.take_add_one, hc]; rfl
  have l1 : (r.take m).length = m := by rw [List.length_take]; omega
  have l2 : (r.take (m + 1)).length = m + 1 := by rw [List.length_take]; omega
  unfold partA partB
  rw [List.take_of_length_le (by omega : (r.take (m + 1)).length ≤ x), List.take_of_length_le (by omega : (r.take m).length ≤ x), List.drop_eq_nil_of_le (by omega : (r.take (m + 1)).length ≤ x), List.drop_eq_nil_of_le (by omega : (r.take m).length ≤ x), e, un_snoc c (by omega)]
  exact ⟨rfl, rfl⟩
theorem part_hi {x y m c : Nat} {r : List Nat} (hy : y ≤ 2) (hm : x ≤ m) (hm2 : m < x + y) (hc : r[m]? = some c) : partA x (m + 1) r = partA x m r ∧ partB x (m + 1) r = 256 * partB x m r + c := by
  have hl : m < r.length := (List.getElem?_eq_some_iff.1 hc).1
  have e : r.take (m + 1) = r.take m ++ [c] := by rw [List.take_add_one, hc]; rfl
  have l1 : (r.take m).length = m := by rw [List.length_take]; omega
  unfold partA partB
  rw [e, List.take_append_of_le_length (by omega), List.drop_append_of_le_length (by omega), un_snoc c (by rw [List.length_drop]; omega)]
  exact ⟨rfl, rfl⟩
theorem part_all (x y : Nat) (r : List Nat) : partA x (x + y) r = un (r.take x) ∧ partB x (x + y) r = un ((r.drop x).take y) := by
  unfold partA partB
  rw [List.take_take, show min x (x + y) = x by omega, List.drop_take, show x + y - x = y by omega]
  exact ⟨rfl, rfl⟩
theorem part_lt {x y m : Nat} {r : List Nat} (hx : x ≤ 2) (hy : y ≤ 2) (hm : m ≤ x + y) (hb : ∀ z ∈ r, z < 256) : partA x m r < 65536 ∧ partB x m r < 65536 :=
  ⟨un_lt (by rw [List.length_take]; omega) (fun z hz => hb z (List.mem_of_mem_take (List.mem_of_mem_take hz))), un_lt (by rw [List.length_drop, List.length_take]; omega) (fun z hz => hb z (List.mem_of_mem_take (List.mem_of_mem_drop hz)))⟩
end Go.Proofs.YtjladeiecokpfaaGreatDoor.Op7
namespace Go.Proofs.YtjladeiecokpfaaGreatDoor
open Go.RowKit

theorem ref_ins : (Tryz.prog.info? 118).map (fun i => (i.zero, i.size, i.bytes)) = some (some (.agg #[.int .u8 0, .int .i64 0, .int .i64 0]), 3, 24) := by kernel_rfl
def RDecPost (w : World) (r : List Op7.Ins × List Nat × Nat) (e : Ending) (w' : World) : Prop :=
  ∃ A1 c1 A2 c2 L, e = .returned (.tuple #[.slice A1 (List.length L) c1, .slice A2 (List.length L) c2, .int .i64 ((r.2.2 : Nat) : Int)]) ∧ L = r.1 ∧ RowI 118 w' w.heap.size A1 c1 L ∧ RowN w' w.heap.size A2 c2 r.2.1 ∧ Grew w w'
theorem RDecPost.none {w w' : World} {r : List Op7.Ins × List Nat × Nat} {k : Nat} (hr : r = ([], [], k)) (hg : Grew w w') : RDecPost w r (.returned (.tuple #[.slice none 0 0, .slice none 0 0, .int .i64 ((k : Nat) : Int)])) w' := by
  subst hr
  exact ⟨Option.none, 0, Option.none, 0, [], rfl, rfl, RowI.nil _ _ _, RowN.nil _ _, hg⟩
set_option maxRecDepth 100000 in
set_option maxHeartbeats 4000000 in
theorem rdecode_c (A : Option Addr) (c : Nat) (bs : List Nat) (w : World) (h : BytesAt w w.heap.size A bs) (hc : bs.length ≤ c) (hl : bs.length ≤ 1000000) :
    Calls Tryz.prog 65 #[.slice A bs.length c] w (RDecPost w (Op7.decR bs)) := by
  have HA := hid h
  obtain ⟨n, en⟩ : ∃ n, n = bs.length := ⟨_, rfl⟩
  rw [← en] at hc hl ⊢
  have EN := hid en
  clear h en
  by_cases h5 : 512 < n
  · have f5 : (512 : Int) < n := by omega
    have HR := hid (Op7.decR_long (b := bs) (by rw [← EN.out]; exact h5))
    go_enter Tryz.func65, Tryz.ntmps65
    go_wp2_with fail
    go_ret3
    exact RDecPost.none HR.out (Grew.refl _)
  have f5 : (n : Int) ≤ 512 := by omega
  have H5 := hid (show ¬ 512 < bs.length by rw [← EN.out]; exact h5)
  go_enter Tryz.func65, Tryz.ntmps65
  go_wp2_with fail
  go_loopw [5, 6, 7] (fun s5 s6 s7 wr => ∃ (i : Nat) (A1 : Option Addr) (c1 : Nat) (A2 : Option Addr) (c2 : Nat) (L : List Op7.Ins), s5 = .slice A1 L.length c1 ∧ s6 = .slice A2 L.length c2 ∧ s7 = .int .i64 ((i : Nat) : Int) ∧ i ≤ n ∧ L.length ≤ i ∧ Grew w wr ∧ Hid (Op7.Done bs i L ∧ RowI 118 wr w.heap.size A1 c1 L ∧ RowN wr w.heap.size A2 c2 (Op7.offs L) ∧ Apart A1 A2)) (fun _ _ s7 _ => n - (intOf s7).toNat)
  case atStart => exact ⟨0, none, 0, none, 0, [], rfl, rfl, rfl, Nat.zero_le _, Nat.zero_le _, Grew.refl _, hid ⟨Op7.done_start bs, RowI.nil _ _ _, RowN.nil _ _, by rintro k ⟨_, h, _⟩; cases h⟩⟩
  case round =>
    obtain ⟨i, A1, c1, A2, c2, L, rfl, rfl, rfl, hi, hL, hg, H⟩ := hrel
    have HG := hid hg
    clear hg
    by_cases hlt : i < n
    · have f1 : (i : Int) < n := by omega
      obtain ⟨ad, rfl, hb, hcc⟩ := HA.out.2 (by rw [← EN.out]; omega)
      obtain ⟨x, hx⟩ : ∃ x, bs[i]? = some x := ⟨_, List.getElem?_eq_getElem (show i < bs.length by rw [← EN.out]; exact hlt)⟩
      have q := hcc i (by rw [← EN.out]; exact hlt)
      rw [show bs.getD i 0 = x by rw [List.getD_eq_getElem?_getD, hx]; rfl] at q
      have hq2 := q
      rw [← HG.out.below.cell (by rw [block_add]; exact hb)] at q
      have hx2 := HA.out.1 x (List.mem_of_getElem? hx)
      have HS := hid (size_c x wr hx2)
      by_cases hok : x < 21 ∧ i + Op7.size x ≤ n
      · obtain ⟨h21, hs⟩ := hok
        rw [if_pos h21] at HS
        have HF := hid (fun w' => form_of x w' hx2)
        rw [decide_eq_true h21] at HF
        have HW := hid (wide_of x)
        have HD := hid (Op7.done_next H.out.1 hx h21 (by rw [← EN.out]; exact hs))
        have hw2 := Op7.wid_le x
        have HSZ := hid (show Op7.size x = 1 + (Op7.wid x).1 + (Op7.wid x).2 from rfl)
        have hz1 := Op7.size_pos x
        have hz5 := Op7.size_le x
        have HIN := hid (show Op7.insAt bs i x = ⟨x, (Op7.partA (Op7.wid x).1 ((Op7.wid x).1 + (Op7.wid x).2) (bs.drop (i + 1)) : Nat), (Op7.partB (Op7.wid x).1 ((Op7.wid x).1 + (Op7.wid x).2) (bs.drop (i + 1)) : Nat)⟩ by
          rw [(Op7.part_all _ _ _).1, (Op7.part_all _ _ _).2]; rfl)
        have HB := hid (fun m (hm : m < (Op7.wid x).1 + (Op7.wid x).2) => (⟨_, List.getElem?_eq_getElem (by rw [List.length_drop, ← EN.out]; have := HSZ.out; omega)⟩ : ∃ z, (bs.drop (i + 1))[m]? = some z))
        have HBB := hid (fun z hz => HA.out.1 z (List.mem_of_mem_drop hz) : ∀ z ∈ bs.drop (i + 1), z < 256)
        have HBC := hid (fun m z (hz : (bs.drop (i + 1))[m]? = some z) => (show w.cell? (ad.add (i + (m + 1))) = some (.int .u8 ((z : Nat) : Int)) by
          rw [List.getElem?_drop] at hz
          have hlt' := (List.getElem?_eq_some_iff.1 hz).1
          rw [hcc (i + (m + 1)) (by omega), List.getD_eq_getElem?_getD, show i + (m + 1) = i + 1 + m by omega, hz]; rfl))
        clear hcc hx
        generalize hin : Op7.insAt bs i x = p at *
        clear hin
        generalize bs.drop (i + 1) = r at *
        generalize Op7.size x = sz at *
        generalize (Op7.wid x).1 = x1 at *
        generalize (Op7.wid x).2 = y1 at *
        generalize formB x = fs at *
        have g1 : ((sz : Int) == 0) = false := by rw [beq_eq_false_iff_ne]; omega
        have g2 : (i : Int) + sz ≤ n := by omega
        have hb2 : ad.block < wr.heap.size := Nat.lt_of_lt_of_le hb HG.out.below.size
        go_wp2_with fail
        refine (Calls.after (Grew.refl _) HS.out).mono ?_
        rintro e w2 ⟨rfl, y2, rfl⟩
        go_wp2_with fail
        refine (Calls.after y2.grew (HF.out _)).mono ?_
        rintro e w3 ⟨rfl, y3, rfl⟩
        go_wp2_with fail
        refine (Calls.after y3.grew (HW.out _)).mono ?_
        rintro e w4 ⟨rfl, y4, rfl⟩
        have q4 : (y4.w).cell? (ad.add i) = some (.int .u8 ((x : Nat) : Int)) := by rw [(HG.out.trans y4.grew).below.cell (by rw [block_add]; exact hb)]; exact hq2
        have HG4 := hid (HG.out.trans y4.grew)
        have HI4 := hid (H.out.2.1.grew y4.grew)
        have HN4 := hid (H.out.2.2.1.grew y4.grew)
        have HY4 := hid y4.grew
        generalize hw4 : y4.w = w4 at *
        clear hw4 y4 HW HF HS q hq2
        go_wp2_with fail
        have HB4 := hid (Blk.new w4 118 #[.int .u8 ((x : Nat) : Int), .int .i64 0, .int .i64 0])
        go_loopw [14] (fun s14 ws => ∃ (m a b : Nat), s14 = .int .i64 ((m + 1 : Nat) : Int) ∧ m + 1 ≤ sz ∧ a < 65536 ∧ b < 65536 ∧ Grew w4 ws ∧ Hid (Blk ws w4.heap.size 118 #[.int .u8 ((x : Nat) : Int), .int .i64 ((a : Nat) : Int), .int .i64 ((b : Nat) : Int)] ∧ a = Op7.partA x1 m r ∧ b = Op7.partB x1 m r)) (fun s14 _ => sz - (intOf s14).toNat)
        case atStart =>
          exact ⟨0, 0, 0, rfl, by omega, by decide, by decide, (Grew.refl _).alloc _, hid ⟨HB4.out, (Op7.part_0 x1 r).1.symm, (Op7.part_0 x1 r).2.symm⟩⟩
        case round =>
          obtain ⟨m, a, b, rfl, hm, ha, hb', hg5, H5b⟩ := hrel
          have HG5 := hid hg5
          clear hg5 HB4 q4
          by_cases hlt2 : m + 1 < sz
          · have hmx : m < x1 + y1 := by have := HSZ.out; omega
            obtain ⟨z, hz⟩ := HB.out m hmx
            have hzb := HBB.out z (List.mem_of_getElem? hz)
            have hlt3 := hid (Op7.part_lt (m := m + 1) hw2.1 hw2.2 (by omega) HBB.out)
            have HB6 := hid H5b.out.1
            have q6 := HBC.out m z hz
            rw [← (HG4.out.trans HG5.out).below.cell (by rw [block_add]; exact hb)] at q6
            have f2 : (m : Int) + 1 < sz := by omega
            have f3 : (i : Int) + (m + 1) < n := by omega
            by_cases hmx1 : m < x1
            · have hpp := hid (Op7.part_lo hw2.1 hmx1 hz)
              have f4 : (m : Int) + 1 ≤ x1 := by omega
              clear hz
              go_wp2_with fail
              refine wp_region_still_tail 12 (by kernel_rfl) (by kernel_rfl) ?_
              simp only [List.take_succ_cons, List.take_zero, List.drop_succ_cons, List.drop_zero]
              change wpStill Tryz.prog _ wr.drew (fun a' => wpList Tryz.prog _ _ _ a' wr.drew) _ _
              replace HB6 := hid (HB6.out.grew (Grew.refl wr).drew)
              have HG6 := hid HG5.out.drew
              rw [show wr.cell? (ad.add (i + (m + 1))) = wr.drew.cell? (ad.add (i + (m + 1))) from rfl] at q6
              generalize wr.drew = w6 at HB6 HG6 q6 ⊢
              have p1 := HB6.out.cell 1
              have p2 := HB6.out.cell 2
              have r1 := HB6.out.frozen 1
              have r2 := HB6.out.frozen 2
              simp only [List.getElem?_toArray, List.getElem?_cons_zero, List.getElem?_cons_succ] at p1 p2
              have t2 : 0 ≤ (i : Int) + ((m : Int) + 1) := by omega
              have t1 : IntKind.i64.wrap ((i : Int) + ((m : Int) + 1)) = (i : Int) + ((m : Int) + 1) := IntWalk.i64_in _ (by omega)
              have t4 : IntKind.i64.wrap (256 * (a : Int)) = 256 * (a : Int) := IntWalk.i64_in _ (by omega)
              have t5 : IntKind.i64.wrap (256 * (a : Int) + (z : Int)) = 256 * (a : Int) + (z : Int) := IntWalk.i64_in _ (by omega)
              have t3 : ((i : Int) + ((m : Int) + 1)).toNat = i + (m + 1) := by omega
              repeat still_step
              refine wpStill_nil ?_
              go_wp2_with fail
              have HBN := hid (HB6.out.put 1 (.int .i64 (256 * (a : Int) + (z : Int))))
              simp only [List.setIfInBounds_toArray, List.set_cons_succ, List.set_cons_zero] at HBN
              clear t1 t2 t3 t4 t5 p1 p2 r1 r2 q6
              go_round
              case rel => exact ⟨m + 1, 256 * a + z, b, by go_num, by omega, by have := hlt3.out.1; rw [hpp.out.1, ← H5b.out.2.1] at this; exact this, hb', HG6.out.setCell (Nat.le_refl _) _, hid ⟨by rw [Int.natCast_add, Int.natCast_mul]; exact HBN.out, by rw [hpp.out.1, ← H5b.out.2.1], by rw [hpp.out.2]; exact H5b.out.2.2⟩⟩
              case measure => simp [intOf]; omega
            · have hpp := hid (Op7.part_hi hw2.2 (Nat.not_lt.1 hmx1) hmx hz)
              have f4 : ¬ (m : Int) + 1 ≤ x1 := by omega
              clear hz
              go_wp2_with fail
              refine wp_region_still_tail 12 (by kernel_rfl) (by kernel_rfl) ?_
              simp only [List.take_succ_cons, List.take_zero, List.drop_succ_cons, List.drop_zero]
              change wpStill Tryz.prog _ wr.drew (fun a' => wpList Tryz.prog _ _ _ a' wr.drew) _ _
              replace HB6 := hid (HB6.out.grew (Grew.refl wr).drew)
              have HG6 := hid HG5.out.drew
              rw [show wr.cell? (ad.add (i + (m + 1))) = wr.drew.cell? (ad.add (i + (m + 1))) from rfl] at q6
              generalize wr.drew = w6 at HB6 HG6 q6 ⊢
              have p1 := HB6.out.cell 1
              have p2 := HB6.out.cell 2
              have r1 := HB6.out.frozen 1
              have r2 := HB6.out.frozen 2
              simp only [List.getElem?_toArray, List.getElem?_cons_zero, List.getElem?_cons_succ] at p1 p2
              have t2 : 0 ≤ (i : Int) + ((m : Int) + 1) := by omega
              have t1 : IntKind.i64.wrap ((i : Int) + ((m : Int) + 1)) = (i : Int) + ((m : Int) + 1) := IntWalk.i64_in _ (by omega)
              have t4 : IntKind.i64.wrap (256 * (b : Int)) = 256 * (b : Int) := IntWalk.i64_in _ (by omega)
              have t5 : IntKind.i64.wrap (256 * (b : Int) + (z : Int)) = 256 * (b : Int) + (z : Int) := IntWalk.i64_in _ (by omega)
              have t3 : ((i : Int) + ((m : Int) + 1)).toNat = i + (m + 1) := by omega
              repeat still_step
              refine wpStill_nil ?_
              go_wp2_with fail
              have HBN := hid (HB6.out.put 2 (.int .i64 (256 * (b : Int) + (z : Int))))
              simp only [List.setIfInBounds_toArray, List.set_cons_succ, List.set_cons_zero] at HBN
              clear t1 t2 t3 t4 t5 p1 p2 r1 r2 q6
              go_round
              case rel => exact ⟨m + 1, a, 256 * b + z, by go_num, by omega, ha, by have := hlt3.out.2; rw [hpp.out.2, ← H5b.out.2.2] at this; exact this, HG6.out.setCell (Nat.le_refl _) _, hid ⟨by rw [Int.natCast_add, Int.natCast_mul]; exact HBN.out, by rw [hpp.out.1]; exact H5b.out.2.1, by rw [hpp.out.2, ← H5b.out.2.2]⟩⟩
              case measure => simp [intOf]; omega
          · have hms : m = x1 + y1 := by have := HSZ.out; omega
            have f2 : ¬ (m : Int) + 1 < sz := by omega
            have HP5 := hid (show p = ⟨x, (a : Nat), (b : Nat)⟩ by rw [HIN.out, H5b.out.2.1, H5b.out.2.2, hms])
            have p0 := H5b.out.1.cell 0
            have p1 := H5b.out.1.cell 1
            have p2 := H5b.out.1.cell 2
            simp only [List.getElem?_toArray, List.getElem?_cons_zero, List.getElem?_cons_succ] at p0 p1 p2
            have HG3 := hid (HG4.out.trans HG5.out)
            have HI3 := hid (HI4.out.grew HG5.out)
            have HN3 := hid (HN4.out.grew HG5.out)
            have hol := hid (Op7.offs_len L)
            clear hms HIN HB HBB HBC
            go_wp2_with (at_builtin; first
              | (refine wpList_pushI 113 118 (.agg #[.int .u8 0, .int .i64 0, .int .i64 0]) rfl Tryz.underlying113 ref_ins wr rfl _ _ rfl w.heap.size HG3.out.below.size A1 c1 L rfl HI3.out ⟨x, (a : Nat), (b : Nat)⟩ hx2 _ rfl rfl _ rfl (by omega) ?_; rintro A4 c4 M4 W4 hM4 hO4 hK4 hT4; have HK4 := hid hK4; have HT4 := hid hT4; have HO4 := hid hO4; clear hK4 hT4 hO4)
              | (refine wpList_pushN W4 rfl _ _ rfl w.heap.size (Nat.le_trans HG3.out.below.size HK4.out.size) A2 c2 (Op7.offs L) _ hol.out.symm rfl (Row.kept HN3.out HK4.out (Apart.far H.out.2.2.2)) i _ rfl rfl _ rfl (by omega) ?_; rintro A5 c5 W5 hO5 hK5 hT5; have HK5 := hid hK5; have HT5 := hid hT5; have HO5 := hid hO5; clear hK5 hT5 hO5))
            have HAp := hid (Apart.to H.out.2.2.2 (RowTo.next (.inl rfl) (HY4.out.trans HG5.out).below.size HT4.out) (fun k hk => Row.at_lt H.out.2.2.1 k hk))
            have HAq := hid (Apart.to HAp.out.symm HT5.out (fun k hk => Row.at_lt HO4.out.1 k hk)).symm
            go_round
            case rel => exact ⟨i + sz, A4, c4, A5, c5, M4, rfl, by rw [hM4.out, List.length_append]; rfl, by go_num, by omega, by rw [hM4.out, List.length_append]; simp; omega, (HK5.out.grew (HK4.out.grew HG3.out (Row.at_base HI3.out.1)) (Row.at_base HN3.out)), hid ⟨by rw [hM4.out, ← HP5.out]; exact HD.out, ⟨HO4.out.1.kept HK5.out (Apart.far HAp.out.symm), HO4.out.2⟩, by rw [hM4.out, Op7.offs_snoc, ← H.out.1.2.1]; exact HO5.out, HAq.out⟩⟩
            case measure => simp [intOf]; omega
      · have HR := hid (Op7.done_none H.out.1 hx (by rw [← EN.out]; exact hok) H5.out)
        have hz1 := Op7.size_pos x
        by_cases h21 : x < 21
        · rw [if_pos h21] at HS
          have hs : ¬ (i + Op7.size x ≤ n) := fun h => hok ⟨h21, h⟩
          have hz5 := Op7.size_le x
          clear hok hx hcc
          generalize Op7.size x = sz at *
          have g1 : ((sz : Int) == 0) = false := by rw [beq_eq_false_iff_ne]; omega
          have g2 : (n : Int) < (i : Int) + sz := by omega
          go_wp2_with fail
          refine HS.out.mono ?_
          rintro e w2 ⟨rfl, hg2⟩
          go_wp2_with fail
          go_ret3
          exact RDecPost.none HR.out (HG.out.trans hg2)
        · rw [if_neg h21] at HS
          clear hok hx hcc
          go_wp2_with fail
          refine HS.out.mono ?_
          rintro e w2 ⟨rfl, hg2⟩
          go_wp2_with fail
          go_ret3
          exact RDecPost.none HR.out (HG.out.trans hg2)
    · have hin : i = n := by omega
      subst hin
      have HR := hid (show Op7.decR bs = (L, Op7.offs L, 0) from Op7.done_end (by have := H.out.1; rw [EN.out] at this; exact this) H5.out)
      go_wp2_with fail
      go_ret3
      exact ⟨A1, c1, A2, c2, L, by rw [HR.out]; rfl, by rw [HR.out], H.out.2.1, by rw [HR.out]; exact H.out.2.2.1, HG.out⟩
end Go.Proofs.YtjladeiecokpfaaGreatDoor
namespace Go.Proofs.YtjladeiecokpfaaGreatDoor.Fl
open Go.RowKit Op7

def Below (D E : List Int) : Prop := ∀ i, D.getD i 0 ≠ -1 → D.getD i 0 = E.getD i 0
theorem Below.set {D E : List Int} (h : Below D E) {s : Nat} {a : Int} (ha : E.getD s 0 = a) : Below (D.set s a) E := by
  intro i hi
  rw [getD_set] at hi ⊢
  split
  · rename_i h1
    rw [← h1.1]; exact ha.symm
  · rename_i h1
    rw [if_neg h1] at hi
    exact h i hi
theorem visit_some {a : Int} {E : List Int} : ∀ {r : List Nat} {D : List Int} {W : List Nat}, (∀ s ∈ r, E.getD s 0 = a) → Below D E → ∃ p, visit a r D W = some p ∧ Below p.1 E
  | [], D, W, _, h => ⟨_, rfl, h⟩
  | s :: r, D, W, hr, h => by
    have hs := hr s (by simp)
    have hr' : ∀ s ∈ r, E.getD s 0 = a := fun x hx => hr x (by simp [hx])
    unfold visit
    by_cases h1 : D.getD s 0 = -1
    · rw [if_pos h1]
      exact visit_some hr' (h.set hs)
    · rw [if_neg h1, if_pos (by rw [h s h1, hs])]
      exact visit_some hr' h
theorem run_some {l : List Ins} {g : List (List Nat)} {E : List Int} (hS : Settled l g E []) (hg : ∀ i, ∀ s ∈ g.getD i [], s < l.length) : ∀ {f : Nat} {D : List Int} {W : List Nat}, D.length = l.length → (∀ i ∈ W, i < l.length ∧ D.getD i 0 ≠ -1) → Below D E → left D W < f → ∃ F, run l g f D W = some F
  | 0, _, _, _, _, _, h => by omega
  | f + 1, D, [], _, _, _, _ => ⟨D, rfl⟩
  | f + 1, D, i :: W, hl, hW, hB, hf => by
    obtain ⟨hi, hi2⟩ := hW i (by simp)
    have he := hB i hi2
    obtain ⟨hm, hs⟩ := hS.done i hi (by rw [← he]; exact hi2) (by simp)
    rw [← he] at hm hs
    have hlen : ∀ s ∈ g.getD i [], s < D.length := fun s hs => by rw [hl]; exact hg i s hs
    have ha : after (l.getD i ⟨0, 0, 0⟩) (D.getD i 0) ≠ -1 := by have := may_nonneg hm; omega
    obtain ⟨p, hp, hpB⟩ := visit_some (W := W) hs hB
    obtain ⟨v1, v2⟩ := visit_left ha hlen hp
    obtain ⟨k1, k2, k3, k4, k5⟩ := visit_grows ha hlen hp
    unfold run
    rw [if_pos hm, hp, Option.bind_some]
    refine run_some hS hg (by rw [v2, hl]) (fun j hj => ?_) hpB ?_
    · rcases k4 j hj with h1 | ⟨h1, h2⟩
      · obtain ⟨q1, q2⟩ := hW j (by simp [h1])
        exact ⟨q1, by rw [k1 j q2]; exact q2⟩
      · exact ⟨hg i j h1, by rw [h2]; exact ha⟩
    · unfold left at v1 hf ⊢
      rw [List.length_cons] at hf
      omega
theorem depths_some {l : List Ins} {g : List (List Nat)} {E : List Int} (hl : l ≠ []) (hg : ∀ i, ∀ s ∈ g.getD i [], s < l.length) (hS : Settled l g E []) (h0 : E.getD 0 0 = 0) : ∃ D, depths l g = some D := by
  have hp := List.length_pos_iff.2 hl
  unfold depths
  refine run_some hS hg (by simp) (fun i hi => ?_) (fun i hi => ?_) ?_
  · obtain rfl := List.mem_singleton.1 hi
    exact ⟨hp, by rw [start_getD]; simp⟩
  · rw [start_getD] at hi ⊢
    split
    · rename_i h; rw [if_pos h] at hi; exact absurd rfl hi
    · rename_i h
      by_cases h1 : i = 0
      · rw [h1, h0]
      · rw [List.getD_eq_getElem?_getD, List.getElem?_eq_none (by rw [hS.len]; omega)]; rfl
  · unfold left
    have h1 : ((List.replicate l.length (-1 : Int)).set 0 0).count (-1) ≤ l.length := by
      have := List.count_le_length (a := (-1 : Int)) (l := (List.replicate l.length (-1 : Int)).set 0 0)
      rwa [List.length_set, List.length_replicate] at this
    simp only [List.length_singleton]
    omega
theorem graph_none {l : List Ins} {os : List Nat} {i : Nat} (hi : i < l.length) (h : node l os i = none) : graph l os = none := by
  unfold graph
  split
  · rfl
  · refine graphTo_none (k := i + 1) ?_ _ (by omega)
    unfold graphTo
    cases graphTo l os i with
    | none => rfl
    | some g => rw [Option.bind_some, h]; rfl
theorem graph_some {l : List Ins} {os : List Nat} (hl : l ≠ []) (h : ∀ i, i < l.length → node l os i ≠ none) : ∃ g, graph l os = some g := by
  unfold graph
  rw [if_neg hl]
  have : ∀ k, k ≤ l.length → ∃ g, graphTo l os k = some g := by
    intro k
    induction k with
    | zero => exact fun _ => ⟨_, rfl⟩
    | succ k ih =>
      intro hk
      obtain ⟨g, hg⟩ := ih (by omega)
      obtain ⟨s, hs⟩ := Option.ne_none_iff_exists'.1 (h k (by omega))
      exact ⟨g ++ [s], by unfold graphTo; rw [hg, Option.bind_some, hs]; rfl⟩
  exact this _ (Nat.le_refl _)

/-- The i-th one is settled. -/
def Calm (l : List Ins) (g : List (List Nat)) (D : List Int) (i : Nat) : Prop := D.getD i 0 ≠ -1 → may (l.getD i ⟨0, 0, 0⟩) (D.getD i 0) = true ∧ ∀ s ∈ g.getD i [], D.getD s 0 = after (l.getD i ⟨0, 0, 0⟩) (D.getD i 0)
theorem calm_depths {l : List Ins} {g : List (List Nat)} {D : List Int} (hl : l ≠ []) (hg : ∀ i, ∀ s ∈ g.getD i [], s < l.length) (hD : D.length = l.length) (hb : ∀ i, -1 ≤ D.getD i 0) (h0 : D.getD 0 0 = 0) (h : ∀ i, i < l.length → Calm l g D i) : ∃ E, depths l g = some E :=
  depths_some hl hg ⟨hD, by simp, fun i _ => hb i, fun i hi h1 _ => h i hi h1⟩ h0
/-- As far as it has come, it is below what the depths are. -/
def Under (l : List Ins) (g : List (List Nat)) (D : List Int) : Prop := ∀ E, depths l g = some E → Below D E
theorem under_calm {l : List Ins} {g : List (List Nat)} {D : List Int} (hl : l ≠ []) (hg : ∀ i, ∀ s ∈ g.getD i [], s < l.length) (h : Under l g D) {i : Nat} (hi : i < l.length) (h1 : D.getD i 0 ≠ -1) (E : List Int) (hE : depths l g = some E) : may (l.getD i ⟨0, 0, 0⟩) (D.getD i 0) = true ∧ ∀ s ∈ g.getD i [], E.getD s 0 = after (l.getD i ⟨0, 0, 0⟩) (D.getD i 0) := by
  have hS := (depths_settled hl hg hE).1
  have e := h E hE i h1
  rw [e]
  exact hS.done i hi (by rw [← e]; exact h1) (by simp)
theorem under_may {l : List Ins} {g : List (List Nat)} {D : List Int} (hl : l ≠ []) (hg : ∀ i, ∀ s ∈ g.getD i [], s < l.length) (h : Under l g D) {i : Nat} (hi : i < l.length) (h1 : D.getD i 0 ≠ -1) (hm : may (l.getD i ⟨0, 0, 0⟩) (D.getD i 0) = false) : depths l g = none := by
  cases hd : depths l g with
  | none => rfl
  | some E => have := (under_calm hl hg h hi h1 E hd).1; rw [hm] at this; cases this
/-- What those behind must have: of 'a', one by one. -/
def Want (l : List Ins) (g : List (List Nat)) (a : Int) (r : List Nat) : Prop := ∀ E, depths l g = some E → ∀ s ∈ r, E.getD s 0 = a
theorem want_not {l : List Ins} {g : List (List Nat)} {D : List Int} {a : Int} {r : List Nat} (h : Under l g D) (hw : Want l g a r) {s : Nat} (hs : s ∈ r) (h1 : D.getD s 0 ≠ -1) (h2 : D.getD s 0 ≠ a) : depths l g = none := by
  cases hd : depths l g with
  | none => rfl
  | some E => exact absurd ((h E hd s h1).trans (hw E hd s hs)) h2
theorem Under.set {l : List Ins} {g : List (List Nat)} {D : List Int} {a : Int} {r : List Nat} (h : Under l g D) (hw : Want l g a r) {s : Nat} (hs : s ∈ r) : Under l g (D.set s a) := fun E hE => (h E hE).set (hw E hE s hs)

theorem norm_len (l : List Nat) : (norm l).length ≤ l.length := by
  unfold norm
  split
  · split
    · simp
    · split <;> simp
  · exact Nat.le_refl _
theorem succ_len {l : List Ins} {os : List Nat} {i : Nat} {s : List Nat} (h : succ l os i = some s) : s.length ≤ 2 := by
  obtain ⟨o, _, p, h1, ⟨_, t, _, rfl⟩ | ⟨_, rfl⟩⟩ := succ_parts h
  · have := nextOf_len h1
    have h2 := norm_len (p ++ [t])
    simp at h2
    omega
  · have := nextOf_len h1
    have h2 := norm_len p
    omega

end Go.Proofs.YtjladeiecokpfaaGreatDoor.Fl
namespace Go.Proofs.YtjladeiecokpfaaGreatDoor.Fl
open Go.RowKit Op7

def placeI (os : List Nat) (x : Int) : Int := match place os x with
  | some k => ((k : Nat) : Int)
  | none => -1
theorem place_at {os : List Nat} (hu : os.Pairwise (· < ·)) {i : Nat} {x : Int} (hi : i < os.length) (h : ((os.getD i 0 : Nat) : Int) = x) : place os x = some i := by
  have e : os.getD i 0 = os[i] := by rw [List.getD_eq_getElem?_getD, List.getElem?_eq_getElem hi]; rfl
  rw [e] at h
  subst h
  unfold place
  have hm : (toI os).contains ((os[i] : Nat) : Int) = true := by
    have : ((os[i] : Nat) : Int) ∈ toI os := List.mem_map.2 ⟨_, List.getElem_mem hi, rfl⟩
    simpa using this
  rw [if_pos hm]
  congr 1
  have hs : os = os.take i ++ os.drop i := (List.take_append_drop i os).symm
  have hl := List.pairwise_iff_getElem.1 hu
  have lo : ∀ j (hj : j < os.length), j < i → os[j] < os[i] := fun j hj h => hl j i hj hi h
  have up : ∀ j (hj : j < os.length), i ≤ j → os[i] ≤ os[j] := fun j hj h => by
    rcases Nat.eq_or_lt_of_le h with rfl | h
    · exact Nat.le_refl _
    · exact Nat.le_of_lt (hl i j hi hj h)
  generalize os[i] = z at lo up
  unfold toI
  rw [List.countP_map, hs, List.countP_append]
  have h1 : (os.take i).countP ((fun y : Int => decide (y < ((z : Nat) : Int))) ∘ fun x : Nat => (x : Int)) = i := by
    have : (os.take i).length = i := by rw [List.length_take]; omega
    refine (List.countP_eq_length.2 fun a ha => ?_).trans this
    obtain ⟨j, hj, rfl⟩ := List.mem_iff_getElem.1 ha
    rw [List.getElem_take]
    have := lo j (by rw [List.length_take] at hj; omega) (by rw [List.length_take] at hj; omega)
    simp; omega
  have h2 : (os.drop i).countP ((fun y : Int => decide (y < ((z : Nat) : Int))) ∘ fun x : Nat => (x : Int)) = 0 := by
    refine List.countP_eq_zero.2 fun a ha => ?_
    obtain ⟨j, hj, rfl⟩ := List.mem_iff_getElem.1 ha
    rw [List.getElem_drop]
    have := up (i + j) (by rw [List.length_drop] at hj; omega) (by omega)
    simp; omega
  omega
theorem place_not {os : List Nat} {x : Int} (h : ∀ j, j < os.length → ((os.getD j 0 : Nat) : Int) ≠ x) : place os x = none := by
  unfold place
  rw [if_neg]
  intro hc
  have hm : x ∈ toI os := by simpa using hc
  obtain ⟨y, hy, rfl⟩ := List.mem_map.1 hm
  obtain ⟨j, hj, rfl⟩ := List.mem_iff_getElem.1 hy
  exact h j hj (by rw [List.getD_eq_getElem?_getD, List.getElem?_eq_getElem hj]; rfl)
end Go.Proofs.YtjladeiecokpfaaGreatDoor.Fl
namespace Go.Proofs.YtjladeiecokpfaaGreatDoor
open Go.RowKit

set_option maxRecDepth 100000 in
set_option maxHeartbeats 1000000 in
theorem rplace_c (A1 : Option Addr) (A2 : Option Addr) (c2 n : Nat) (l : List Op7.Ins) (os : List Nat) (x : Int) (w : World) (h : CodeAt w A1 A2 c2 n l os) :
    Calls Tryz.prog 84 #[.slice A2 n c2, .int .i64 x] w (fun e w' => e = .returned (.int .i64 (Fl.placeI os x)) ∧ Grew w w') := by
  have H := hid h.offs
  have HN := hid h.l2
  have HU := hid h.up
  have hn := h.few
  clear h
  go_enter Tryz.func84, Tryz.ntmps84
  go_wp2_with fail
  go_loopw [5] (fun s5 wr => ∃ i : Nat, s5 = .int .i64 ((i : Nat) : Int) ∧ i ≤ n ∧ Hid (∀ j, j < i → ((os.getD j 0 : Nat) : Int) ≠ x) ∧ (∃ y : After w, wr = y.w)) (fun s5 _ => n - (intOf s5).toNat)
  case atStart => exact ⟨0, rfl, Nat.zero_le _, hid (fun j hj => by omega), Grew.refl w⟩
  case round =>
    obtain ⟨i, rfl, hi, HI, y, rfl⟩ := hrel
    by_cases hlt : i < n
    · have f1 : (i : Int) < n := by omega
      rcases Row.cases (H.out.grew y.grew) with ⟨_, _, _, ⟨_, h0, _⟩ | ⟨gs, rfl, _, hgsl, hcs, _⟩⟩
      · exfalso
        have := HN.out
        omega
      have qx : y.w.cell? ⟨gs, i, none⟩ = some (.int .i64 ((os.getD i 0 : Nat) : Int)) := hcs i _ (numCells_get .i64 os i (by rw [← HN.out]; exact hlt))
      by_cases he : ((os.getD i 0 : Nat) : Int) = x
      · have HX := hid (show Fl.placeI os x = ((i : Nat) : Int) by unfold Fl.placeI; rw [Fl.place_at HU.out (by rw [← HN.out]; exact hlt) he])
        rw [he] at qx
        clear he hcs
        go_wp2_with fail
        go_ret
        exact ⟨ret_int HX.out.symm, y.grew⟩
      · have e1 : (((os.getD i 0 : Nat) : Int) == x) = false := by rw [beq_eq_false_iff_ne]; exact he
        have HX := hid he
        clear he hcs
        have HJ : Hid (∀ j, j < i + 1 → ((os.getD j 0 : Nat) : Int) ≠ x) := hid (fun j hj => by
          by_cases e : j = i
          · rw [e]; exact HX.out
          · exact HI.out j (by omega))
        clear HX HI
        generalize os.getD i 0 = v at qx e1
        go_wp2_with fail
        go_round
        case rel => exact ⟨i + 1, by go_num, by omega, HJ, y.grew⟩
        case measure => simp [intOf]; omega
    · obtain rfl : i = n := by omega
      have HX : Hid (Fl.placeI os x = -1) := hid (by unfold Fl.placeI; rw [Fl.place_not (fun j hj => HI.out j (by rw [HN.out]; exact hj))])
      go_wp2_with fail
      go_ret
      exact ⟨ret_int HX.out.symm, y.grew⟩
set_option maxRecDepth 100000 in
set_option maxHeartbeats 2000000 in
theorem rmoves_c (o : Op7.Ins) (w : World) (hc : o.code < 21) (hb : 0 ≤ o.b ∧ o.b ≤ 65536) :
    Calls Tryz.prog 85 #[.agg (opCells o)] w (fun e w' => e = .returned (.tuple #[.int .i64 (Fl.effect o).1, .int .i64 (Fl.effect o).2]) ∧ Grew w w') := by
  obtain ⟨c, a, b⟩ := o
  show Calls _ _ #[.agg #[.int .u8 ((c : Nat) : Int), .int .i64 a, .int .i64 b]] w _
  change 0 ≤ b ∧ b ≤ 65536 at hb
  change c < 21 at hc
  obtain ⟨b0, b1⟩ := hb
  have hg := hid ((Grew.refl w).alloc (.cells #[.int .u8 ((c : Nat) : Int), .int .i64 a, .int .i64 b] 118))
  unfold Fl.effect
  simp only
  rcases (by omega : c = 0 ∨ c = 1 ∨ c = 2 ∨ c = 3 ∨ c = 4 ∨ c = 5 ∨ c = 6 ∨ c = 7 ∨ c = 8 ∨ c = 9 ∨ c = 10 ∨ c = 11 ∨ c = 12 ∨ c = 13 ∨ c = 14 ∨ c = 15 ∨ c = 16 ∨ c = 17 ∨ c = 18 ∨ c = 19 ∨ c = 20) with h | h | h | h | h | h | h | h | h | h | h | h | h | h | h | h | h | h | h | h | h
  all_goals
    subst h
    go_enter Tryz.func85, Tryz.ntmps85
    go_wp2_with fail
    go_ret2
    exact ⟨rfl, hg.out⟩
end Go.Proofs.YtjladeiecokpfaaGreatDoor
namespace Go.Proofs.YtjladeiecokpfaaGreatDoor
open Go.RowKit

/-- What 'next' answers. -/
def RNext (w : World) (s : Option (List Nat)) (e : Ending) (w' : World) : Prop :=
  ∃ A m c, e = .returned (.tuple #[.slice A m c, .bool s.isSome]) ∧ (∀ t, s = some t → m = t.length ∧ RowN w' w.heap.size A c t) ∧ Grew w w'
theorem RNext.none {w w' : World} {s : Option (List Nat)} {A : Option Addr} {m c : Nat} {b : Bool} (hs : s = none) (hb : b = false) (hg : Grew w w') : RNext w s (.returned (.tuple #[.slice A m c, .bool b])) w' := by
  subst hs hb
  exact ⟨A, m, c, rfl, (fun t h => nomatch h), hg⟩
theorem RNext.some {w w' : World} {s : Option (List Nat)} {t : List Nat} {A : Option Addr} {m c : Nat} {b : Bool} (hs : s = some t) (hb : b = true) (hm : m = t.length) (hr : RowN w' w.heap.size A c t) (hg : Grew w w') : RNext w s (.returned (.tuple #[.slice A m c, .bool b])) w' := by
  subst hs hb
  exact ⟨A, m, c, rfl, (fun t' h => by cases h; exact ⟨hm, hr⟩), hg⟩
theorem row_one (W : World) (x B : Nat) (hB : B ≤ W.heap.size) : RowN (W.alloc (.cells #[.int .i64 ((x : Nat) : Int)] 3)) B (some ⟨W.heap.size, 0, none⟩) 1 [x] :=
  Row.of_blk (s := 1) (n := 1) (Blk.new W 3 #[.int .i64 ((x : Nat) : Int)]) hB rfl (by decide)
theorem row_two (W : World) (x y B : Nat) (hB : B ≤ W.heap.size) : RowN (W.alloc (.cells #[.int .i64 ((x : Nat) : Int), .int .i64 ((y : Nat) : Int)] 3)) B (some ⟨W.heap.size, 0, none⟩) 2 [x, y] :=
  Row.of_blk (s := 1) (n := 2) (Blk.new W 3 #[.int .i64 ((x : Nat) : Int), .int .i64 ((y : Nat) : Int)]) hB rfl (by decide)
set_option maxRecDepth 100000 in
set_option maxHeartbeats 4000000 in
theorem rnext_c (A1 : Option Addr) (c1 : Nat) (A2 : Option Addr) (c2 n : Nat) (l : List Op7.Ins) (os : List Nat) (i : Nat) (w : World) (h : CodeAt w A1 A2 c2 n l os) (hi : i < n) :
    Calls Tryz.prog 83 #[.slice A1 n c1, .slice A2 n c2, .int .i64 ((i : Nat) : Int)] w (RNext w (Fl.succ l os i)) := by
  have H := hid h
  have hn := h.few
  obtain ⟨o, ho⟩ : ∃ o, l[i]? = some o := ⟨_, List.getElem?_eq_getElem (show i < l.length by rw [← H.out.l1]; exact hi)⟩
  obtain ⟨ad, rfl, hb, hc⟩ := h.ops.2 (by rw [← H.out.l1]; omega)
  obtain ⟨q0, q1, q2⟩ := op_cell (o := o) (i := i) (ad := ad) (w := w) (hc i o ho)
  have hs : Fl.succ l os i = Fl.succO os n i o := by
    unfold Fl.succ
    rw [ho, ← H.out.l1]; rfl
  rw [hs]
  clear h hc ho hs
  obtain ⟨cd, oa, ob⟩ := o
  simp only at q0 q1 q2
  have HG : Hid (Grew w (w.alloc (.cells #[.int .u8 ((cd : Nat) : Int), .int .i64 oa, .int .i64 ob] 118))) := hid ((Grew.refl w).alloc _)
  have HP := hid (fun (w' : World) (hg : Grew w w') => Calls.after hg (rplace_c _ A2 c2 n l os oa w' (H.out.grew hg)))
  have HPl : Hid (∀ k, Fl.place os oa = some k → k < n) := hid (fun k hk => by have := Fl.placeLt hk; rw [H.out.l2]; exact this)
  have f1 : (i : Int) < n := by omega
  clear H
  by_cases h17 : cd = 17 ∨ cd = 18 ∨ cd = 19
  · have HS : Hid (Fl.succO os n i ⟨cd, oa, ob⟩ = some []) := hid (by
      rcases h17 with rfl | rfl | rfl <;> rfl)
    generalize Fl.succO os n i ⟨cd, oa, ob⟩ = so at *
    rcases h17 with rfl | rfl | rfl
    all_goals
      go_enter Tryz.func83, Tryz.ntmps83
      go_wp2_with fail
      go_ret2
      exact RNext.some HS.out rfl rfl (RowN.nil _ _) HG.out
  have n17 : ((cd : Int) == 17) = false := by rw [beq_eq_false_iff_ne]; omega
  have n18 : ((cd : Int) == 18) = false := by rw [beq_eq_false_iff_ne]; omega
  have n19 : ((cd : Int) == 19) = false := by rw [beq_eq_false_iff_ne]; omega
  have H17 := hid h17
  clear h17
  by_cases h13 : cd = 13
  · subst h13
    have HS : Hid (Fl.succO os n i ⟨13, oa, ob⟩ = (Fl.place os oa).map fun t => [t]) := hid rfl
    generalize Fl.succO os n i ⟨13, oa, ob⟩ = so at *
    unfold Fl.placeI at HP
    generalize Fl.place os oa = pl at *
    cases pl with
    | none =>
      simp only at HP
      go_enter Tryz.func83, Tryz.ntmps83
      go_wp2_with fail
      refine (HP.out _ HG.out).mono ?_
      rintro e w2 ⟨rfl, y2, rfl⟩
      go_wp2_with fail
      go_ret2
      exact RNext.none HS.out rfl (y2.grew.alloc _)
    | some k =>
      simp only at HP
      have f2 : (0 : Int) ≤ (k : Int) := by omega
      go_enter Tryz.func83, Tryz.ntmps83
      go_wp2_with fail
      refine (HP.out _ HG.out).mono ?_
      rintro e w2 ⟨rfl, y2, rfl⟩
      go_wp2_with fail
      go_ret2
      exact RNext.some HS.out rfl rfl (row_one _ k _ y2.b.size) (y2.grew.alloc _)
  have n13 : ((cd : Int) == 13) = false := by rw [beq_eq_false_iff_ne]; omega
  by_cases h14 : cd = 14
  · subst h14
    have HS : Hid (Fl.succO os n i ⟨14, oa, ob⟩ = (if i + 1 = n then none else some [i + 1]).bind fun p => (Fl.place os oa).map fun t => Fl.norm (p ++ [t])) := hid rfl
    generalize Fl.succO os n i ⟨14, oa, ob⟩ = so at *
    unfold Fl.placeI at HP
    generalize Fl.place os oa = pl at *
    cases pl with
    | none =>
      simp only at HP
      have HS2 : Hid (so = none) := hid (by rw [HS.out]; split <;> rfl)
      go_enter Tryz.func83, Tryz.ntmps83
      go_wp2_with fail
      refine (HP.out _ HG.out).mono ?_
      rintro e w2 ⟨rfl, y2, rfl⟩
      go_wp2_with fail
      go_ret2
      exact RNext.none HS2.out rfl y2.grew
    | some k =>
      simp only at HP
      have hk := HPl.out k rfl
      have f2 : ((k : Int) < 0) = False := by simp
      by_cases h1 : i + 1 = n
      · have HS2 : Hid (so = none) := hid (by rw [HS.out, if_pos h1]; rfl)
        have f3 : (n : Int) ≤ (i : Int) + 1 := by omega
        go_enter Tryz.func83, Tryz.ntmps83
        go_wp2_with fail
        refine (HP.out _ HG.out).mono ?_
        rintro e w2 ⟨rfl, y2, rfl⟩
        go_wp2_with fail
        go_ret2
        exact RNext.none HS2.out rfl y2.grew
      · have f3 : ((n : Int) ≤ (i : Int) + 1) = False := by simp; omega
        by_cases h2 : k = i + 1
        · subst h2
          have HS2 : Hid (so = some [i + 1]) := hid (by rw [HS.out, if_neg h1]; simp [Fl.norm])
          go_enter Tryz.func83, Tryz.ntmps83
          go_wp2_with fail
          refine (HP.out _ HG.out).mono ?_
          rintro e w2 ⟨rfl, y2, rfl⟩
          go_wp2_with fail
          go_ret2
          exact RNext.some HS2.out rfl rfl (row_one _ (i + 1) _ y2.b.size) (y2.grew.alloc _)
        · have e1 : ((k : Int) == (i : Int) + 1) = false := by rw [beq_eq_false_iff_ne]; omega
          by_cases h3 : k < i + 1
          · have HS2 : Hid (so = some [k, i + 1]) := hid (by rw [HS.out, if_neg h1]; show some (Fl.norm [i + 1, k]) = _; unfold Fl.norm; simp only; rw [if_neg (by omega), if_neg (by omega)])
            have f4 : (k : Int) < (i : Int) + 1 := by omega
            have m1 : min (k : Int) ((i : Int) + 1) = k := by omega
            have m2 : max (k : Int) ((i : Int) + 1) = (i : Int) + 1 := by omega
            go_enter Tryz.func83, Tryz.ntmps83
            go_wp2_with fail
            refine (HP.out _ HG.out).mono ?_
            rintro e w2 ⟨rfl, y2, rfl⟩
            go_wp2_with fail
            go_ret2
            exact RNext.some HS2.out rfl rfl (row_two _ k (i + 1) _ y2.b.size) (y2.grew.alloc _)
          · have HS2 : Hid (so = some [i + 1, k]) := hid (by rw [HS.out, if_neg h1]; show some (Fl.norm [i + 1, k]) = _; unfold Fl.norm; simp only; rw [if_pos (by omega)])
            have f4 : (i : Int) + 1 < (k : Int) := by omega
            have m1 : min (k : Int) ((i : Int) + 1) = (i : Int) + 1 := by omega
            have m2 : max (k : Int) ((i : Int) + 1) = k := by omega
            go_enter Tryz.func83, Tryz.ntmps83
            go_wp2_with fail
            refine (HP.out _ HG.out).mono ?_
            rintro e w2 ⟨rfl, y2, rfl⟩
            go_wp2_with fail
            go_ret2
            exact RNext.some HS2.out rfl rfl (row_two _ (i + 1) k _ y2.b.size) (y2.grew.alloc _)
  have n14 : ((cd : Int) == 14) = false := by rw [beq_eq_false_iff_ne]; omega
  have HS : Hid (Fl.succO os n i ⟨cd, oa, ob⟩ = if i + 1 = n then none else some [i + 1]) := hid (by
    have := H17.out
    unfold Fl.succO Fl.nextOf Fl.cont Fl.jumps
    simp only
    rw [if_pos (by simp; omega)]
    split
    · rfl
    · rw [Option.bind_some, if_neg (by simp; omega)]; rfl)
  generalize Fl.succO os n i ⟨cd, oa, ob⟩ = so at *
  by_cases h1 : i + 1 = n
  · have HS2 : Hid (so = none) := hid (by rw [HS.out, if_pos h1])
    have f3 : ((i : Int) + 1 < n) = False := by simp; omega
    go_enter Tryz.func83, Tryz.ntmps83
    go_wp2_with fail
    go_ret2
    exact RNext.none HS2.out rfl (HG.out.alloc _)
  · have HS2 : Hid (so = some [i + 1]) := hid (by rw [HS.out, if_neg h1])
    have f3 : (i : Int) + 1 < n := by omega
    go_enter Tryz.func83, Tryz.ntmps83
    go_wp2_with fail
    go_ret2
    have HR := row_one (w.alloc (.cells #[.int .u8 ((cd : Nat) : Int), .int .i64 oa, .int .i64 ob] 118)) (i + 1) w.heap.size HG.out.below.size
    rw [World.size_alloc] at HR
    exact RNext.some HS2.out rfl rfl HR (HG.out.alloc _)
end Go.Proofs.YtjladeiecokpfaaGreatDoor
namespace Go.Proofs.YtjladeiecokpfaaGreatDoor
open Go.RowKit

end Go.Proofs.YtjladeiecokpfaaGreatDoor
namespace Go.Proofs.YtjladeiecokpfaaGreatDoor
open Go.RowKit

end Go.Proofs.YtjladeiecokpfaaGreatDoor
namespace Go.Proofs.YtjladeiecokpfaaGreatDoor
open Go.RowKit

theorem eff_bounds (o : Op7.Ins) (hb : 0 ≤ o.b ∧ o.b ≤ 65536) : 0 ≤ (Fl.effect o).1 ∧ (Fl.effect o).1 ≤ 65537 ∧ 0 ≤ (Fl.effect o).2 ∧ (Fl.effect o).2 ≤ 2 := by
  unfold Fl.effect
  split
  · decide
  · split
    · simp only; omega
    · split
      · decide
      · split <;> decide
/-- What the document's Depths answers. -/
def RDep (w : World) (b : List Nat) (e : Ending) (w' : World) : Prop :=
  (∃ k, e = .returned (.tuple #[.slice none 0 0, .int .i64 ((k : Nat) : Int)]) ∧ Fl.Bad b k ∧ Grew w w') ∨ ∃ A m c l os G D, e = .returned (.tuple #[.slice A m c, .int .i64 0]) ∧ Fl.Well b l os G D ∧ Grew w w'
/-- The document's decoded code. -/
theorem rcode {w w' : World} {b : List Nat} {A1 A2 : Option Addr} {c1 c2 : Nat} {L : List Op7.Ins} {os : List Nat} (hb : ∀ x ∈ b, x < 256) (hd : Op7.decR b = (L, os, 0)) (hI : RowI 118 w' w.heap.size A1 c1 L) (hN : RowN w' w.heap.size A2 c2 os) : CodeAt w' A1 A2 c2 L.length L os ∧ os.length = L.length ∧ ∀ o ∈ L, o.code < 21 := by
  obtain ⟨rfl, hv, hbe, h5⟩ := decR_ok hb hd
  have hll : L.length ≤ 512 := by
    have := Op7.encs_long L
    rw [← hbe] at this
    omega
  exact ⟨⟨hI.ops, Row.low hN (Nat.zero_le _), rfl, by rw [Op7.offs_len], offsF_up 0 L, hll, fun o ho => valid_fit (hv o ho)⟩, by rw [Op7.offs_len], fun o ho => (hv o ho).1⟩
/-- As far as the rounds have come. -/
def AgR (w1 : World) (gO n : Nat) (l : List Op7.Ins) (G : List (List Nat)) (f : Nat) (s : Value) (wr : World) : Prop :=
  ∃ (D : List Int) (ag : Bool), s = .bool ag ∧ RowD wr w1.heap.size gO n D ∧ (∀ i, -1 ≤ D.getD i 0 ∧ D.getD i 0 ≤ 32) ∧ Fl.Under l G D ∧ D.getD 0 0 = 0 ∧ (ag = false → ∀ i, i < n → Fl.Calm l G D i) ∧ 2 * D.count (-1) + (if ag then 1 else 0) < f ∧ f ≤ 2 * n + 2 ∧ Grew w1 wr
set_option maxRecDepth 100000 in
set_option maxHeartbeats 4000000 in
/-- The rounds: behind the graph. -/
theorem rdepths_c (A : Option Addr) (c : Nat) (bs : List Nat) (w : World) (h : BytesAt w w.heap.size A bs) (hc : bs.length ≤ c) (hl : bs.length ≤ 1000000) :
    Calls Tryz.prog 64 #[.slice A bs.length c] w (RDep w bs) := by
  have HB := hid h.1
  have HD := hid (rdecode_c A c bs w h hc hl)
  obtain ⟨low, hlow⟩ := low_ex
  have HLow := hid hlow
  clear h hc hl hlow
  generalize bs.length = n0 at *
  go_enter Tryz.func64, Tryz.ntmps64
  go_wp2_with fail
  refine HD.out.mono ?_
  rintro e w1 ⟨A1, c1, A2, c2, L, rfl, hL, hI, hN, hg1⟩
  have HG1 := hid hg1
  obtain ⟨l, os, k, hr⟩ : ∃ l os k, Op7.decR bs = (l, os, k) := ⟨_, _, _, rfl⟩
  rw [hr] at hL hN ⊢
  simp only at hL hN ⊢
  subst hL
  have HR := hid hr
  clear hr HD hg1
  by_cases hk : k = 0
  · subst hk
    obtain ⟨hC, hol, hv⟩ := rcode HB.out HR.out hI hN
    have HC := hid hC
    have HV := hid hv
    have hn := hC.few
    rw [show ((0 : Nat) : Int) = 0 from rfl]
    obtain ⟨n, hn'⟩ : ∃ n, n = L.length := ⟨_, rfl⟩
    rw [← hn'] at HC hn ⊢
    have HLn := hid hn'
    have HOl : Hid (os.length = L.length) := hid hol
    clear hC hv hI hN hol hn'
    rcases Nat.eq_zero_or_pos n with h0 | hn1
    · subst h0
      have HBd : Hid (Fl.Bad bs 8) := hid ⟨L, os, .inr ⟨HR.out, rfl, .inl (by unfold Fl.graph; rw [if_pos (List.eq_nil_of_length_eq_zero HLn.out.symm)])⟩⟩
      go_wp2_with fail
      go_ret2
      exact .inl ⟨8, rfl, HBd.out, HG1.out⟩
    have e0 : (((n : Nat) : Int) == 0) = false := by rw [beq_eq_false_iff_ne]; omega
    have f0 : (0 : Int) < n := by omega
    obtain ⟨W2, hmk, hR2, hG2, hlt2⟩ := make_one (z := .int .i64 0) Tryz.underlying58 op_int rfl (by decide) n (by omega) w1
    rw [int_zero] at hR2
    obtain ⟨gO, hgO⟩ : ∃ gO, gO = w1.heap.size := ⟨_, rfl⟩
    rw [← hgO] at hmk hlt2
    have HR2 : Hid (RowD W2 w1.heap.size gO n (List.replicate n 0)) := hid (by rw [hgO]; exact hR2)
    have HG2 := hid hG2
    have HgO := hid hgO
    have HNx := hid (fun i (w' : World) (hi : i < n) (hg : Grew w1 w') => rnext_c A1 c1 A2 c2 n L os i w' (HC.out.grew hg) hi)
    have HMv := hid (fun (i : Nat) (o : Op7.Ins) (ho : L[i]? = some o) (w' : World) => rmoves_c o w' (HV.out o (List.mem_of_getElem? ho)) (HC.out.fit o (List.mem_of_getElem? ho)).2)
    have HPl := hid (fun (x : Int) (w' : World) (hg : Grew w1 w') => Calls.after (Grew.refl w') (rplace_c A1 A2 c2 n L os x w' (HC.out.grew hg)))
    obtain ⟨ad, rfl, hb, hcc⟩ := HC.out.ops.2 (by rw [← HLn.out]; omega)
    have HIc := hid (fun (i : Nat) (o : Op7.Ins) (ho : L[i]? = some o) (w' : World) (hg : Grew w1 w') => op_cell (o := o) (i := i) (ad := ad) (w := w') (fun j u hu => by
      rw [hg.below.cell (by rw [block_add]; exact hb)]; exact hcc i o ho j u hu))
    clear hR2 hG2 hgO hcc
    go_wp2_with fail
    clear hmk
    go_loopw [8] (fun s8 wr => ∃ (i : Nat) (D : List Int), s8 = .int .i64 ((i : Nat) : Int) ∧ i ≤ n ∧ Hid (RowD wr w1.heap.size gO n D ∧ (∀ j, j < i → D.getD j 0 = -1 ∧ Fl.node L os j ≠ none)) ∧ (∃ y : After w1, wr = y.w)) (fun s8 _ => n - (intOf s8).toNat)
    case atStart => exact ⟨0, _, rfl, Nat.zero_le _, hid ⟨HR2.out, fun j hj => by omega⟩, HG2.out⟩
    case round =>
      clear HR2 HG2
      obtain ⟨i, D, rfl, hi, HI, y, rfl⟩ := hrel
      by_cases hlt : i < n
      · have f1 : (i : Int) < n := by omega
        obtain ⟨qc, qf⟩ := HI.out.1.at i hlt
        have hgl := HI.out.1.lt'
        have HD5 := hid (HI.out.1.set i (-1))
        have HG5 := hid (y.grew.setCell (p := ⟨gO, i, none⟩) hgl.1 (.int .i64 (-1)))
        obtain ⟨o, ho⟩ : ∃ o, L[i]? = some o := ⟨_, List.getElem?_eq_getElem (show i < L.length by rw [← HLn.out]; exact hlt)⟩
        have HO := hid ho
        clear ho
        go_wp2_with fail
        generalize y.w.setCell ⟨gO, i, none⟩ (.int .i64 (-1)) = W5 at *
        clear qc qf
        refine (HNx.out i W5 hlt HG5.out).mono ?_
        rintro e w6 ⟨Ak, mk, ck, rfl, hsk, y6, rfl⟩
        have HG6 := hid (HG5.out.trans y6.grew)
        have HD6 := hid (HD5.out.grew' y6.grew)
        have HDi : Hid (∀ j, j < i + 1 → (D.set i (-1)).getD j 0 = -1) := hid (fun j hj => by
          rw [Fl.getD_set]
          split
          · rfl
          · rename_i h1
            have := HI.out.1.len
            exact (HI.out.2 j (by
              rcases Nat.lt_or_ge j i with h2 | h2
              · exact h2
              · exfalso; exact h1 ⟨by omega, by omega⟩)).1)
        cases hsu : Fl.succ L os i with
        | none =>
          have HBd : Hid (Fl.Bad bs 8) := hid ⟨L, os, .inr ⟨HR.out, rfl, .inl (Fl.graph_none (i := i) (by rw [← HLn.out]; exact hlt) (by unfold Fl.node; rw [hsu]; rfl))⟩⟩
          clear hsk hsu
          simp only [Option.isSome_none]
          go_wp2_with fail
          go_ret2
          exact .inl ⟨8, rfl, HBd.out, HG1.out.trans HG6.out⟩
        | some s =>
          have HNo : Hid (Fl.node L os i = if o.code = 14 ∧ Fl.isJoin L os o.b = false then none else some s) := hid (by
            unfold Fl.node
            rw [hsu, Option.bind_some, HO.out])
          clear hsk hsu
          simp only [Option.isSome_some]
          obtain ⟨q0, q1, q2⟩ := HIc.out i o HO.out y6.w HG6.out
          by_cases h14 : o.code = 14
          · have HJ := hid (show Fl.isJoin L os o.b = (match Fl.place os o.b with
              | none => false
              | some k => ((L[k]?).map (·.code)).getD 0 == 15) from rfl)
            have HPx := hid (HPl.out o.b y6.w HG6.out)
            unfold Fl.placeI at HPx
            rw [h14] at q0
            have HPk : Hid (∀ k, Fl.place os o.b = some k → k < n) := hid (fun k hk => by have := Fl.placeLt hk; rw [HLn.out, ← HOl.out]; exact this)
            generalize Fl.place os o.b = pl at *
            cases pl with
            | none =>
              have HBd : Hid (Fl.Bad bs 8) := hid ⟨L, os, .inr ⟨HR.out, rfl, .inl (Fl.graph_none (i := i) (by rw [← HLn.out]; exact hlt) (by rw [HNo.out, if_pos ⟨h14, HJ.out⟩]))⟩⟩
              simp only at HPx
              obtain ⟨cd, oa, ob⟩ := o
              simp only at q0 q1 q2 h14 HPx
              clear h14
              go_wp2_with fail
              refine HPx.out.mono ?_
              rintro e w7 ⟨rfl, y7, rfl⟩
              go_wp2_with fail
              go_ret2
              exact .inl ⟨8, rfl, HBd.out, HG1.out.trans (HG6.out.trans y7.grew)⟩
            | some k =>
              have hkn := HPk.out k rfl
              simp only at HPx
              obtain ⟨p, hp⟩ : ∃ p, L[k]? = some p := ⟨_, List.getElem?_eq_getElem (show k < L.length by rw [← HLn.out]; exact hkn)⟩
              have HQk := hid (fun (w' : World) (hg : Grew w1 w') => HIc.out k p hp w' hg)
              have HJ2 : Hid (Fl.isJoin L os o.b = (p.code == 15)) := hid (by rw [HJ.out]; simp [hp])
              have HOb : Hid (o.code = 14) := hid h14
              have HNn : Hid (p.code = 15 → Fl.node L os i ≠ none) := hid (fun h => by rw [HNo.out, if_neg (by rw [HJ2.out, h]; simp)]; simp)
              have HNy : Hid (p.code ≠ 15 → Fl.node L os i = none) := hid (fun h => by rw [HNo.out, if_pos ⟨HOb.out, by rw [HJ2.out]; simp [h]⟩])
              obtain ⟨cd, oa, ob⟩ := o
              simp only at q0 q1 q2 h14 HPx
              clear h14 hp HJ2 HNo HJ
              have f2 : (k : Int) < n := by omega
              have f3 : ((k : Int) < 0) = False := by simp
              go_wp2_with fail
              refine HPx.out.mono ?_
              rintro e w7 ⟨rfl, y7, rfl⟩
              obtain ⟨p0, _, _⟩ := HQk.out y7.w (HG6.out.trans y7.grew)
              by_cases h15 : p.code = 15
              · rw [h15] at p0
                have HNN := hid (HNn.out h15)
                clear h15 HNn HNy
                go_wp2_with fail
                go_round
                case rel => exact ⟨i + 1, _, by go_num, by omega, hid ⟨HD6.out.grew' y7.grew, fun j hj => ⟨HDi.out j hj, by
                  rcases Nat.lt_or_ge j i with h2 | h2
                  · exact (HI.out.2 j h2).2
                  · obtain rfl : j = i := by omega
                    exact HNN.out⟩⟩, HG6.out.trans y7.grew⟩
                case measure => simp [intOf]; omega
              · have HBd : Hid (Fl.Bad bs 8) := hid ⟨L, os, .inr ⟨HR.out, rfl, .inl (Fl.graph_none (i := i) (by rw [← HLn.out]; exact hlt) (HNy.out h15))⟩⟩
                have e1 : (((p.code : Nat) : Int) != 15) = true := by rw [bne_iff_ne]; omega
                clear h15 HNn HNy
                generalize p.code = pc at *
                go_wp2_with fail
                go_ret2
                exact .inl ⟨8, rfl, HBd.out, HG1.out.trans (HG6.out.trans y7.grew)⟩
          · have HNN : Hid (Fl.node L os i ≠ none) := hid (by rw [HNo.out, if_neg (fun h => h14 h.1)]; simp)
            have e1 : (((o.code : Nat) : Int) == 14) = false := by rw [beq_eq_false_iff_ne]; omega
            clear h14 HNo
            obtain ⟨cd, oa, ob⟩ := o
            simp only at q0 q1 q2 e1
            go_wp2_with fail
            go_round
            case rel => exact ⟨i + 1, _, by go_num, by omega, hid ⟨HD6.out, fun j hj => ⟨HDi.out j hj, by
              rcases Nat.lt_or_ge j i with h2 | h2
              · exact (HI.out.2 j h2).2
              · obtain rfl : j = i := by omega
                exact HNN.out⟩⟩, HG6.out⟩
            case measure => simp [intOf]; omega
      · obtain rfl : i = n := by omega
        have hLne : L ≠ [] := fun h => by have := HLn.out; rw [h] at this; simp at this; omega
        obtain ⟨G, hG⟩ := Fl.graph_some (os := os) hLne (fun j hj => (HI.out.2 j (by rw [HLn.out]; exact hj)).2)
        have HGr := hid hG
        have HGl : Hid (G.length = i) := hid (by rw [(Fl.graph_parts hG).2.1, HLn.out])
        have HGs : Hid (∀ j, ∀ s ∈ G.getD j [], s < L.length) := hid (Fl.graph_lt HOl.out hG)
        have HLne := hid hLne
        have HNx2 : Hid (∀ j (w' : World), j < i → Grew w1 w' → Calls Tryz.prog 83 #[.slice (some ad) i c1, .slice A2 i c2, .int .i64 ((j : Nat) : Int)] w' (fun e w'' => ∃ A m c, e = .returned (.tuple #[.slice A m c, .bool true]) ∧ m = (G.getD j []).length ∧ m ≤ 2 ∧ RowN w'' w'.heap.size A c (G.getD j []) ∧ ∃ y : After w', w'' = y.w)) := hid (fun j w' hj hg => by
          obtain ⟨s, h1, h2⟩ := Fl.graph_succ hG (show j < L.length by rw [← HLn.out]; exact hj)
          have := HNx.out j w' hj hg
          rw [h2] at this
          refine this.mono ?_
          rintro e w'' ⟨A, m, c, rfl, h3, h4⟩
          obtain ⟨h5, h6⟩ := h3 s rfl
          rw [List.getD_eq_getElem?_getD, h1]
          exact ⟨A, m, c, rfl, h5, by rw [h5]; exact Fl.succ_len h2, h6, h4⟩)
        obtain ⟨qc, qf⟩ := HI.out.1.at 0 hn1
        have hgl := HI.out.1.lt'
        have HD0 := hid (HI.out.1.set 0 0)
        have HG0 := hid (y.grew.setCell (p := ⟨gO, 0, none⟩) hgl.1 (.int .i64 0))
        have HE0 : Hid (∀ j, (D.set 0 0).getD j 0 = if j < i ∧ j ≠ 0 then -1 else 0) := hid (fun j => by
          have hl := HI.out.1.len
          rw [Fl.getD_set]
          by_cases h1 : j = 0
          · subst h1
            rw [if_pos ⟨rfl, by omega⟩, if_neg (by omega)]
          · rw [if_neg (by omega)]
            by_cases h2 : j < i
            · rw [if_pos ⟨h2, h1⟩]; exact (HI.out.2 j h2).1
            · rw [if_neg (by omega), List.getD_eq_getElem?_getD, List.getElem?_eq_none (by omega)]; rfl)
        have HDl : Hid ((D.set 0 0).length = i) := hid HD0.out.len
        generalize D.set 0 0 = D0 at *
        clear hG hLne HNx HI
        go_wp2_with fail
        generalize y.w.setCell ⟨gO, 0, none⟩ (.int .i64 0) = W0 at *
        clear qc qf hgl y
        go_loopw [12] (fun s12 wr => ∃ f, AgR w1 gO i L G f s12 wr) (fun s12 wr => low (fun f => AgR w1 gO i L G f s12 wr))
        case atStart =>
          refine ⟨2 * i + 2, D0, true, rfl, HD0.out, fun j => ?_, fun E hE j hj => ?_, ?_, (fun h => by cases h), ?_, Nat.le_refl _, HG0.out⟩
          · rw [HE0.out]; split <;> omega
          · have h0 := (Fl.depths_settled HLne.out HGs.out hE)
            rw [HE0.out] at hj ⊢
            split
            · rename_i h1; rw [if_pos h1] at hj; exact absurd rfl hj
            · rename_i h1
              by_cases h2 : j = 0
              · rw [h2, h0.2]
              · rw [List.getD_eq_getElem?_getD, List.getElem?_eq_none (by rw [h0.1.len, ← HLn.out]; omega)]; rfl
          · rw [HE0.out, if_neg (by omega)]
          · have h1 := List.count_le_length (a := (-1 : Int)) (l := D0)
            rw [HDl.out] at h1
            simp only [if_true]
            omega
        case round =>
          obtain ⟨f0', hf0⟩ := hrel
          obtain ⟨hq, _⟩ := HLow.out (fun f => AgR w1 gO i L G f u12 wr) f0' hf0
          have HM := hid (fun (s : Value) (w' : World) (f' : Nat) (h1 : AgR w1 gO i L G f' s w') (h2 : f' < low fun f => AgR w1 gO i L G f u12 wr) => Nat.lt_of_le_of_lt (HLow.out (fun f => AgR w1 gO i L G f s w') f' h1).2 h2)
          clear hf0 HD0 HG0 HE0 HDl D0 W0
          show Code.wp _ _ (Exit.then (fun a' w' => _ ∧ _ < low fun f => AgR w1 gO i L G f u12 wr) _) _ _
          generalize (low fun f => AgR w1 gO i L G f u12 wr) = m0 at *
          obtain ⟨D, ag, rfl, hRow, hbd, hun, h00, hcal, hl, hm0, y4, rfl⟩ := hq
          have HRow := hid hRow
          have HBo := hid hbd
          have HUn := hid hun
          have H00 := hid h00
          have HCal := hid hcal
          have HL := hid hl
          clear hRow hbd hun h00 hcal hl
          cases ag with
          | false =>
            have HW : Hid (∃ E, Fl.Well bs L os G E) := hid (by
              obtain ⟨E, hE⟩ := Fl.calm_depths HLne.out HGs.out (by rw [HRow.out.len, HLn.out]) (fun j => (HBo.out j).1) H00.out (fun j hj => HCal.out rfl j (by rw [HLn.out]; exact hj))
              exact ⟨E, HR.out, HGr.out, hE⟩)
            go_wp2_with fail
            go_ret2
            obtain ⟨E, hE⟩ := HW.out
            exact .inr ⟨_, _, _, L, os, G, E, rfl, hE, HG1.out.trans y4.grew⟩
          | true =>
            go_wp2_with fail
            go_loopw [12, 13] (fun s12 s13 wr => ∃ (j : Nat) (D : List Int) (ag : Bool), s12 = .bool ag ∧ s13 = .int .i64 ((j : Nat) : Int) ∧ j ≤ i ∧ Hid (RowD wr w1.heap.size gO i D ∧ (∀ j, -1 ≤ D.getD j 0 ∧ D.getD j 0 ≤ 32) ∧ Fl.Under L G D ∧ D.getD 0 0 = 0 ∧ (ag = false → ∀ k, k < j → Fl.Calm L G D k) ∧ 2 * D.count (-1) + (if ag then 1 else 0) + 1 < m0) ∧ (∃ y : After w1, wr = y.w)) (fun _ s13 _ => i - (intOf s13).toNat)
            case atStart => exact ⟨0, D, false, rfl, rfl, Nat.zero_le _, hid ⟨HRow.out, HBo.out, HUn.out, H00.out, fun _ k hk => by omega, by have := HL.out; simpa using this⟩, y4.grew⟩
            case round =>
              clear HRow HBo HUn H00 HCal HL D
              obtain ⟨j, D, ag, rfl, rfl, hj, HI, y5, rfl⟩ := hrel
              by_cases hjn : j < i
              · have f1 : (j : Int) < i := by omega
                obtain ⟨qc, qf⟩ := HI.out.1.at j hjn
                have hbj := HI.out.2.1 j
                by_cases hd1 : D.getD j 0 = -1
                · rw [hd1] at qc
                  have HCm : Hid (ag = false → ∀ k, k < j + 1 → Fl.Calm L G D k) := hid (fun ha k hk => by
                    rcases Nat.lt_or_ge k j with h1 | h1
                    · exact HI.out.2.2.2.2.1 ha k h1
                    · obtain rfl : k = j := by omega
                      exact fun h => absurd hd1 h)
                  clear hd1
                  go_wp2_with fail
                  go_round
                  case rel => exact ⟨j + 1, D, ag, rfl, by go_num, by omega, hid ⟨HI.out.1, HI.out.2.1, HI.out.2.2.1, HI.out.2.2.2.1, HCm.out, HI.out.2.2.2.2.2⟩, y5.grew⟩
                  case measure => simp [intOf]; omega
                · obtain ⟨o, ho⟩ : ∃ o, L[j]? = some o := ⟨_, List.getElem?_eq_getElem (show j < L.length by rw [← HLn.out]; exact hjn)⟩
                  have HLo : Hid (L.getD j ⟨0, 0, 0⟩ = o) := hid (by rw [List.getD_eq_getElem?_getD, ho]; rfl)
                  obtain ⟨q0, q1, q2⟩ := HIc.out j o ho y5.w y5.grew
                  have HMc := hid (HMv.out j o ho)
                  obtain ⟨b1, b2, b3, b4⟩ := eff_bounds o (HC.out.fit o (List.mem_of_getElem? ho)).2
                  have HMay : Hid (Fl.may o (D.getD j 0) = (decide ((Fl.effect o).1 ≤ D.getD j 0) && decide (Fl.after o (D.getD j 0) ≤ 32))) := hid rfl
                  have HAf : Hid (Fl.after o (D.getD j 0) = D.getD j 0 - (Fl.effect o).1 + (Fl.effect o).2) := hid rfl
                  have HNo : Hid (Fl.may o (D.getD j 0) = false → Fl.Bad bs 8) := hid (fun hm => ⟨L, os, .inr ⟨HR.out, rfl, .inr ⟨G, HGr.out, Fl.under_may HLne.out HGs.out HI.out.2.2.1 (by rw [← HLn.out]; exact hjn) hd1 (by rw [HLo.out]; exact hm)⟩⟩⟩)
                  have HWant : Hid (Fl.Want L G (Fl.after o (D.getD j 0)) (G.getD j [])) := hid (fun E hE => by
                    have := (Fl.under_calm HLne.out HGs.out HI.out.2.2.1 (by rw [← HLn.out]; exact hjn) hd1 E hE).2
                    rw [HLo.out] at this
                    exact this)
                  have hd0 : 0 ≤ D.getD j 0 := by omega
                  have HDj : Hid (∀ d, d = D.getD j 0 → D.getD j 0 = d) := hid (fun d h => h.symm)
                  obtain ⟨d, hd⟩ : ∃ d, d = D.getD j 0 := ⟨_, rfl⟩
                  replace HDj := hid (HDj.out d hd)
                  rw [← hd] at qc hbj HMay HAf HNo HWant hd0
                  clear hd ho hd1
                  obtain ⟨a, ha⟩ : ∃ a, a = Fl.after o d := ⟨_, rfl⟩
                  have HA := hid ha.symm
                  rw [← ha] at HMay HAf HWant
                  clear ha
                  obtain ⟨mb, hmb⟩ : ∃ mb, mb = Fl.may o d := ⟨_, rfl⟩
                  have HMb := hid hmb.symm
                  rw [← hmb] at HMay HNo
                  clear hmb
                  obtain ⟨t, ht⟩ : ∃ t, t = (Fl.effect o).1 := ⟨_, rfl⟩
                  obtain ⟨p, hp⟩ : ∃ p, p = (Fl.effect o).2 := ⟨_, rfl⟩
                  rw [← ht, ← hp] at HMc
                  rw [← ht] at b1 b2 HMay HAf
                  rw [← hp] at b3 b4 HAf
                  clear ht hp
                  obtain ⟨cd, oa, ob⟩ := o
                  unfold opCells at HMc
                  simp only at q0 q1 q2 HMc
                  have e1 : (d < 0) = False := by simp; omega
                  go_wp2_with fail
                  refine (Calls.after (Grew.refl y5.w) (HMc.out y5.w)).mono ?_
                  rintro e w6 ⟨rfl, y6, rfl⟩
                  have HG6 := hid (y5.grew.trans y6.grew)
                  have HD6 := hid (HI.out.1.grew' y6.grew)
                  obtain ⟨qc6, qf6⟩ := HD6.out.at j hjn
                  rw [HDj.out] at qc6
                  clear q0 q1 q2 qc qf
                  have g1 : IntKind.i64.wrap (d - t) = d - t := IntWalk.i64_in _ (by omega)
                  have hA := HAf.out
                  have g2 : IntKind.i64.wrap (d - t + p) = a := by rw [hA]; exact IntWalk.i64_in _ (by omega)
                  by_cases hc1 : d < t
                  · have HBd := hid (HNo.out (by rw [HMay.out]; simp; omega))
                    clear HNo HMay HAf hA
                    go_wp2_with fail
                    go_ret2
                    exact .inl ⟨8, rfl, HBd.out, HG1.out.trans HG6.out⟩
                  · have e2 : (d < t) = False := by simp; omega
                    by_cases hc2 : 32 < a
                    · have HBd := hid (HNo.out (by rw [HMay.out]; simp; omega))
                      clear HNo HMay HAf hA hc1
                      go_wp2_with fail
                      go_ret2
                      exact .inl ⟨8, rfl, HBd.out, HG1.out.trans HG6.out⟩
                    · have e3 : (32 < a) = False := by simp; omega
                      have HMt : Hid (mb = true) := hid (by rw [HMay.out]; simp; omega)
                      have HCj : Hid (∀ D' : List Int, D'.getD j 0 = d → (∀ s ∈ G.getD j [], D'.getD s 0 = a) → Fl.Calm L G D' j) := hid (fun D' h1 h2 _ => by
                        rw [HLo.out, h1, HMb.out, HA.out]
                        exact ⟨HMt.out, h2⟩)
                      have ha0 : 0 ≤ a := by omega
                      have ha1 : a ≤ 32 := by omega
                      have HBad8 : Hid (Fl.depths L G = none → Fl.Bad bs 8) := hid (fun h => ⟨L, os, .inr ⟨HR.out, rfl, .inr ⟨G, HGr.out, h⟩⟩⟩)
                      clear HNo HMay HAf hA hc1 hc2 HMb HMt HLo
                      go_wp2_with fail
                      refine (HNx2.out j y6.w hjn HG6.out).mono ?_
                      rintro e w7 ⟨Ak, mk, ck, rfl, hmk, hmk2, hRk, y7, rfl⟩
                      have HMk := hid hmk
                      have HRk := hid hRk
                      have HSk := hid (HGs.out j)
                      have HG7 := hid (HG6.out.trans y7.grew)
                      have HI7 := hid (HI.out.1.grew' (y6.grew.trans y7.grew))
                      clear hRk hmk qc6 qf6 g1 g2 HMc HD6
                      generalize G.getD j [] = sk at *
                      go_wp2_with fail
                      have HgL : Hid (w1.heap.size ≤ gO ∧ gO < y6.w.heap.size) := hid (HI.out.1.grew' y6.grew).lt'
                      go_loopw [12, 19] (fun s12 s19 wr => ∃ (u : Nat) (D' : List Int) (ag : Bool), s12 = .bool ag ∧ s19 = .int .i64 ((u : Nat) : Int) ∧ u ≤ mk ∧ Hid ((RowD wr w1.heap.size gO i D' ∧ RowN wr y6.w.heap.size Ak ck sk) ∧ (∀ j, -1 ≤ D'.getD j 0 ∧ D'.getD j 0 ≤ 32) ∧ Fl.Under L G D' ∧ D'.getD 0 0 = 0 ∧ (ag = false → (∀ k, k < j → Fl.Calm L G D' k) ∧ D'.getD j 0 = d ∧ ∀ v, v < u → D'.getD (sk.getD v 0) 0 = a) ∧ 2 * D'.count (-1) + (if ag then 1 else 0) + 1 < m0) ∧ (∃ y : After w1, wr = y.w)) (fun _ s19 _ => mk - (intOf s19).toNat)
                      case atStart => exact ⟨0, D, ag, rfl, rfl, Nat.zero_le _, hid ⟨⟨HI7.out, HRk.out⟩, HI.out.2.1, HI.out.2.2.1, HI.out.2.2.2.1, fun h => ⟨HI.out.2.2.2.2.1 h, HDj.out, fun v hv => by omega⟩, HI.out.2.2.2.2.2⟩, HG7.out⟩
                      case round =>
                        clear HI HDj HI7 HRk HG7
                        obtain ⟨u, D, ag, rfl, rfl, hu, HI, y8, rfl⟩ := hrel
                        by_cases hum : u < mk
                        · have f2 : (u : Int) < mk := by omega
                          obtain ⟨x, hx⟩ : ∃ x, sk[u]? = some x := ⟨_, List.getElem?_eq_getElem (by rw [← HMk.out]; exact hum)⟩
                          have hxm : x ∈ sk := List.mem_of_getElem? hx
                          have hxn : x < i := by rw [HLn.out]; exact HSk.out x hxm
                          have HXg : Hid (sk.getD u 0 = x) := hid (by rw [List.getD_eq_getElem?_getD, hx]; rfl)
                          have f3 : (x : Int) < i := by omega
                          rcases Row.cases HI.out.1.2 with ⟨_, _, _, ⟨_, h0, _⟩ | ⟨gs, rfl, hgs0, hgsl, hcs, _⟩⟩
                          · exfalso
                            have := HMk.out
                            omega
                          have qx : y8.w.cell? ⟨gs, u, none⟩ = some (.int .i64 ((x : Nat) : Int)) := hcs u _ (by
                            rw [numCells_get .i64 sk u (by rw [← HMk.out]; exact hum), HXg.out])
                          obtain ⟨qd, qf⟩ := HI.out.1.1.at x hxn
                          have HB3 := hid (fun h1 h2 => HBad8.out (Fl.want_not HI.out.2.2.1 HWant.out hxm (s := x) h1 h2))
                          have HUs := hid (HI.out.2.2.1.set HWant.out hxm)
                          clear hcs hx hxm
                          by_cases hd1 : D.getD x 0 = -1
                          · rw [hd1] at qd
                            have HCn := hid (Fl.count_set (by rw [HI.out.1.1.len]; exact hxn) hd1 (show a ≠ -1 by omega))
                            have hx0 : x ≠ 0 := fun h => by have := HI.out.2.2.2.1; rw [h] at hd1; omega
                            have HX0 := hid hx0
                            have hgl := HI.out.1.1.lt'
                            have HK8 : Hid (Kept (fun k => k = gO) y8.w (y8.w.setCell ⟨gO, x, none⟩ (.int .i64 a))) := hid ((Kept.refl (fun k => k = gO) _).setCell (p := ⟨gO, x, none⟩) (fun _ => rfl) _)
                            have HR8 : Hid (RowN (y8.w.setCell ⟨gO, x, none⟩ (.int .i64 a)) y6.w.heap.size (some ⟨gs, 0, none⟩) ck sk) := hid (Row.kept HI.out.1.2 HK8.out (fun g' hg' e => by obtain ⟨rfl⟩ := hg'; have := HgL.out.2; omega))
                            have HRD8 := hid (HI.out.1.1.set x a)
                            have HG8 := hid (y8.grew.setCell (p := ⟨gO, x, none⟩) hgl.1 (.int .i64 a))
                            clear hd1 hx0
                            go_wp2_with fail
                            go_round
                            case rel => exact ⟨u + 1, D.set x a, true, rfl, by go_num, by omega, hid ⟨⟨HRD8.out, HR8.out⟩, fun k => by
                              rw [Fl.getD_set]
                              split
                              · omega
                              · exact HI.out.2.1 k, HUs.out, by
                              rw [Fl.getD_set, if_neg (fun h => HX0.out h.1)]
                              exact HI.out.2.2.2.1, (fun h => by cases h), by
                              have h1 := HI.out.2.2.2.2.2
                              have h2 := HCn.out
                              simp only [if_true]
                              omega⟩, HG8.out⟩
                            case measure => simp [intOf]; omega
                          · by_cases hd2 : D.getD x 0 = a
                            · rw [hd2] at qd
                              have HN8 : Hid (ag = false → (∀ k, k < j → Fl.Calm L G D k) ∧ D.getD j 0 = d ∧ ∀ v, v < u + 1 → D.getD (sk.getD v 0) 0 = a) := hid (fun h => by
                                obtain ⟨h1, h2, h3⟩ := HI.out.2.2.2.2.1 h
                                refine ⟨h1, h2, fun v hv => ?_⟩
                                rcases Nat.lt_or_ge v u with h4 | h4
                                · exact h3 v h4
                                · obtain rfl : v = u := by omega
                                  rw [HXg.out, hd2])
                              have e4 : (a != a) = false := by simp
                              have e5 : (a < 0) = False := by simp; omega
                              clear hd1 hd2
                              go_wp2_with fail
                              go_round
                              case rel => exact ⟨u + 1, D, ag, rfl, by go_num, by omega, hid ⟨HI.out.1, HI.out.2.1, HI.out.2.2.1, HI.out.2.2.2.1, HN8.out, HI.out.2.2.2.2.2⟩, y8.grew⟩
                              case measure => simp [intOf]; omega
                            · have HBd := hid (HB3.out hd1 hd2)
                              have hb8 := HI.out.2.1 x
                              have e4 : (D.getD x 0 != a) = true := by rw [bne_iff_ne]; exact hd2
                              have e5 : 0 ≤ D.getD x 0 := by omega
                              clear hd1 hd2 HB3
                              generalize D.getD x 0 = dx at *
                              go_wp2_with fail
                              go_ret2
                              exact .inl ⟨8, rfl, HBd.out, HG1.out.trans y8.grew⟩
                        · obtain rfl : u = mk := by omega
                          have HCm : Hid (ag = false → ∀ k, k < j + 1 → Fl.Calm L G D k) := hid (fun ha k hk => by
                            obtain ⟨h1, h2, h3⟩ := HI.out.2.2.2.2.1 ha
                            rcases Nat.lt_or_ge k j with h4 | h4
                            · exact h1 k h4
                            · obtain rfl : k = j := by omega
                              refine HCj.out D h2 (fun s hs => ?_)
                              obtain ⟨v, hv, rfl⟩ := List.mem_iff_getElem.1 hs
                              have := h3 v (by rw [HMk.out]; exact hv)
                              rwa [List.getD_eq_getElem?_getD (l := sk), List.getElem?_eq_getElem hv] at this)
                          go_wp2_with fail
                          go_round
                          case rel => exact ⟨j + 1, D, ag, rfl, by go_num, by omega, hid ⟨HI.out.1.1, HI.out.2.1, HI.out.2.2.1, HI.out.2.2.2.1, HCm.out, HI.out.2.2.2.2.2⟩, y8.grew⟩
                          case measure => simp [intOf]; omega
              · obtain rfl : j = i := by omega
                have HD : Hid (∃ f2, AgR w1 gO j L G f2 (.bool ag) y5.w ∧ f2 < m0) := hid ⟨m0 - 1, ⟨D, ag, rfl, HI.out.1, HI.out.2.1, HI.out.2.2.1, HI.out.2.2.2.1, HI.out.2.2.2.2.1, by have := HI.out.2.2.2.2.2; omega, by omega, y5.grew⟩, by have := HI.out.2.2.2.2.2; omega⟩
                go_wp2_with fail
                go_round
                case rel => obtain ⟨f2, h1, _⟩ := HD.out; exact ⟨f2, h1⟩
                case measure => obtain ⟨f2, h1, h2⟩ := HD.out; exact HM.out _ _ f2 h1 h2
  · have HBd : Hid (Fl.Bad bs k) := hid ⟨L, os, .inl ⟨HR.out, hk⟩⟩
    have e1 : (((k : Nat) : Int) != 0) = true := by rw [bne_iff_ne]; omega
    clear hI hN hk
    go_wp2_with fail
    go_ret2
    exact .inl ⟨k, rfl, HBd.out, HG1.out⟩
end Go.Proofs.YtjladeiecokpfaaGreatDoor
namespace Go.Proofs.YtjladeiecokpfaaGreatDoor
open Go.RowKit

end Go.Proofs.YtjladeiecokpfaaGreatDoor
namespace Go.Proofs.YtjladeiecokpfaaGreatDoor
open Go.RowKit

end Go.Proofs.YtjladeiecokpfaaGreatDoor

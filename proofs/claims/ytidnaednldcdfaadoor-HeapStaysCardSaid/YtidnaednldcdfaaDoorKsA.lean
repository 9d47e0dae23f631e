/- Parts of elder texts that this layer needs, joined: XHsA XHsB. -/
import Derived.Test.YtidnaednldcdfaaDoorKdA
namespace Go.Proofs.YtidnaednldcdfaaDoor
open Go.RowKit

/-- Where an object stands among others. -/
theorem stays_next {L : List Hp.It} (hL : Hp.Sorted L) {k : Nat} {x y : Hp.It} (hy : L[k]? = some y) (hx : x ∈ L) (hb : ∀ z ∈ L.take k, z.i < x.i) (hne : y.i ≠ x.i) : ∀ z ∈ L.take (k + 1), z.i < x.i := by
  intro z hz
  rw [List.take_add_one, hy] at hz
  rcases List.mem_append.1 hz with hz | hz
  · exact hb z hz
  · obtain rfl : z = y := by simpa using hz
    obtain ⟨p, hp⟩ := List.mem_iff_getElem?.1 hx
    have hpw := List.pairwise_iff_getElem.1 (show L.Pairwise (fun a b => a.i < b.i) from hL)
    obtain ⟨h1, h2⟩ := List.getElem?_eq_some_iff.1 hy
    obtain ⟨h3, h4⟩ := List.getElem?_eq_some_iff.1 hp
    rcases Nat.lt_trichotomy k p with h | h | h
    · have := hpw k p h1 h3 h
      rw [h2, h4] at this
      exact this
    · subst h
      rw [hy] at hp
      cases hp
      exact absurd rfl hne
    · have h5 : x ∈ L.take k := List.mem_iff_getElem?.2 ⟨p, by rw [List.getElem?_take_of_lt h]; exact hp⟩
      have := hb x h5
      omega
theorem stays_end {L : List Hp.It} {x : Hp.It} (hx : x ∈ L) (hb : ∀ z ∈ L.take L.length, z.i < x.i) : False := by
  rw [List.take_length] at hb
  have := hb x hx
  omega
/-- The closure that looks for a number. -/
def wasB (L : List Hp.It) (i : Int) : Bool := (Hp.find L i).isSome
set_option maxRecDepth 100000 in
set_option maxHeartbeats 4000000 in
theorem was_c (A : Option Addr) (c : Nat) (l : List IV) (gb : Nat) (i : Int) (w : World) (h : ItemsAt w A l) (hb : Blk w gb 32 #[.slice A l.length c]) (hl : l.length ≤ 65536) :
    Calls Tryd.prog 14 #[.int .i64 i, .pointer (some ⟨gb, 0, none⟩)] w fun e w' => (∃ r : Int, e = .returned (.int .i64 r) ∧ (0 ≤ r ↔ wasB (ivI l) i = true)) ∧ Grew w w' := by
  have HA := hid h
  have HB := hid hb
  obtain ⟨n, en⟩ : ∃ n, n = l.length := ⟨_, rfl⟩
  rw [← en] at HB hl
  have EN := hid en
  have hnI : (n : Int) ≤ 65536 := by omega
  clear h hb en
  go_enter Tryd.func14, Tryd.ntmps14
  go_wp2_with fail
  go_loopw [4] (fun s4 wr => ∃ (j : Nat), s4 = .int .i64 ((j : Nat) : Int) ∧ j ≤ n ∧ Hid (∀ x ∈ (ivI l).take j, x.i ≠ i) ∧ Hid (Grew w wr)) (fun s4 _ => n - (intOf s4).toNat)
  case atStart => exact ⟨0, rfl, Nat.zero_le _, hid (by simp), hid (Grew.refl _)⟩
  case round =>
    obtain ⟨j, rfl, hj, HN, HG⟩ := hrel
    have q0 := (HB.out.grew HG.out).cell 0
    have ql := (HB.out.grew HG.out).lt
    simp only [List.getElem?_toArray, List.getElem?_cons_zero] at q0
    by_cases hlt : j < n
    · have f1 : (j : Int) < (n : Int) := by omega
      obtain ⟨ad, x, rfl, hx, hcl, hbk, -, -, -⟩ := iv_at HA.out HG.out (i := j) (by rw [← EN.out]; exact hlt)
      have p0 := hcl 0 _ rfl
      rw [add_zero] at p0
      have hxI : (ivI l)[j]? = some ⟨x.i, x.h, x.o⟩ := by unfold ivI; rw [List.getElem?_map, hx]; rfl
      have HTk := hid (show (ivI l).take (j + 1) = (ivI l).take j ++ [⟨x.i, x.h, x.o⟩] by rw [List.take_add_one, hxI]; rfl)
      have HMe := hid (List.mem_of_getElem? hxI)
      clear hx hcl hxI
      obtain ⟨xi, xh, xo, xA, xc⟩ := x
      simp only at p0 HTk HMe
      by_cases he : xi = i
      · subst he
        have HW : Hid (wasB (ivI l) xi = true) := hid (by
          unfold wasB
          cases hf : Hp.find (ivI l) xi with
          | none => exact absurd rfl (Hp.find_none.1 hf _ HMe.out)
          | some y => rfl)
        go_wp2_with fail
        go_ret
        exact ⟨⟨_, rfl, by rw [HW.out]; simp⟩, HG.out⟩
      · have f2 : (xi == i) = false := by rw [beq_eq_false_iff_ne]; exact he
        go_wp2_with fail
        go_round
        case rel => exact ⟨j + 1, by go_num, by omega, hid (fun y hy => by
          rw [HTk.out] at hy
          rcases List.mem_append.1 hy with hy | hy
          · exact HN.out y hy
          · obtain rfl := List.mem_singleton.1 hy
            exact he), HG⟩
        case measure => simp [intOf]; omega
    · have hjn : j = n := by omega
      subst hjn
      have HW : Hid (wasB (ivI l) i = false) := hid (by
        unfold wasB
        have h1 := HN.out
        rw [show (ivI l).take j = ivI l by rw [EN.out]; unfold ivI; rw [show l.length = (l.map (fun x => (⟨x.i, x.h, x.o⟩ : Hp.It))).length by simp, List.take_length]] at h1
        rw [Hp.find_none.2 h1]
        rfl)
      go_wp2_with fail
      go_ret
      exact ⟨⟨-1, rfl, by rw [HW.out]; simp⟩, HG.out⟩
end Go.Proofs.YtidnaednldcdfaaDoor
namespace Go.Proofs.YtidnaednldcdfaaDoor
open Go.RowKit

theorem ItemsRow.kept2 {F : Nat → Prop} {w w' w4 : World} {B : Nat} {A : Option Addr} {c : Nat} {l : List IV} (h : ItemsRow w B A c l) (h4 : ItemsRow w4 B A c l) (hk : Kept F w w') (hF : ∀ k, F k → k < B ∨ w4.heap.size ≤ k) : ItemsRow w' B A c l :=
  ⟨h.row.kept hk (fun g hA hf => by have h1 := Row.at_base h.row g ⟨_, hA, rfl⟩; have h2 := Row.at_lt h4.row g ⟨_, hA, rfl⟩; have h3 := hF _ hf; omega), fun x hx => (h.fl x hx).kept hk (fun g hA hf => by have h1 := Row.at_base (h.fl x hx) g ⟨_, hA, rfl⟩; have h2 := Row.at_lt (h4.fl x hx) g ⟨_, hA, rfl⟩; have h3 := hF _ hf; omega)⟩
theorem stays_drop {K : List Hp.It} {i : Nat} {x y : Hp.It} (hK : Hp.Sorted K) (hx : K[i]? = some x) (hy : y ∈ K.drop (i + 1)) : x.i < y.i := by
  obtain ⟨p, hp⟩ := List.mem_iff_getElem?.1 hy
  rw [List.getElem?_drop] at hp
  have hpw := List.pairwise_iff_getElem.1 (show K.Pairwise (fun a b => a.i < b.i) from hK)
  obtain ⟨h1, h2⟩ := List.getElem?_eq_some_iff.1 hx
  obtain ⟨h3, h4⟩ := List.getElem?_eq_some_iff.1 hp
  have := hpw i (i + 1 + p) h1 h3 (by omega)
  rw [h2, h4] at this
  exact this
theorem lists_of {w : World} {B : Nat} {A : Option Addr} {n c : Nat} {l : List LV} (h : Row w B 40 1 A n c (l.flatMap lvF)) (hn : n = l.length) (hf : ∀ x ∈ l, ValsAt w x.A x.l) : ListsAt w A l :=
  ⟨hf, fun hl => by
    rcases h.cases with ⟨_, _, _, ⟨_, h2, _⟩ | ⟨g, h1, hb, hw, hc, _⟩⟩
    · omega
    · exact ⟨⟨g, 0, none⟩, h1, hw, CellsAt.of_row lvF_len (by rw [h1] at h; exact h)⟩⟩
theorem HAt.get {w0 w : World} {B C : Nat} {v : HV} {up : List Nat} {room : Int} {q : Nat → Int} {L : List Hp.It} {cn : Nat → Int} (h : HAt w0 w B C v up room q L cn) (i : Int) : Calls Tryd.prog 16 #[.pointer (some ⟨v.g, 0, none⟩), .int .i64 i] w fun e w' => (∃ (k l : Int) (A' : Option Addr) (n c : Nat) (b : ByteArray), e = .returned (.tuple #[.agg #[.int .i64 k, .int .i64 l, .slice A' n c, .string b], errVal (if (Hp.find L i).isSome then 0 else 3)])) ∧ Grew w w' := by
  cases hf : Hp.find L i with
  | none =>
    refine (hGet_no v B i w h.mem h.ok.len (h.find_no hf)).mono ?_
    rintro e w' ⟨rfl, hg⟩
    exact ⟨⟨0, 0, none, 0, 0, _, rfl⟩, hg⟩
  | some x =>
    obtain ⟨hx, hi⟩ := Hp.find_mem hf
    have hr := h.range x hx
    obtain ⟨y, hy, -, -⟩ := h.find_at hx (i := i.toNat) (by omega)
    have hG := hGet_yes v B C i.toNat y w h.mem h.ok hy
    rw [Int.toNat_of_nonneg (by omega)] at hG
    refine hG.mono ?_
    rintro e w' ⟨A', c', rfl, -, hg⟩
    exact ⟨⟨_, _, A', _, c', _, rfl⟩, hg⟩
set_option maxRecDepth 100000 in
set_option maxHeartbeats 16000000 in
theorem stays12_walk (U : Option Addr) (cu : Nat) (up : List Nat) (room : Int) (Q : Option Addr) (cq : Nat) (quota : List Int) (A : Option Addr) (ca : Nat) (l : List A12) (R : Option Addr) (cr : Nat) (rs : List LV) (w : World) (hE : HandleAt w) (hU : BytesAt w w.heap.size U up) (hQ : IntsAt w Q quota) (hA : Acts12 w A l) (hR : ListsAt w R rs) :
    Calls Tryd.prog 3 #[.agg #[.slice U up.length cu, .int .i64 room, .slice Q quota.length cq], .slice A l.length ca, .slice R rs.length cr] w fun e w' => e = .returned (.bool true) ∧ Grew w w' := by
  have HE := hid hE
  have HR := hid hR
  have HMa := hid (fun W (hW : Grew w W) => made_c U cu up room Q cq quota A ca l W (hU.grew hW) (hQ.grew hW) (hA.grew hW))
  generalize up.length = un at *
  generalize quota.length = qn at *
  generalize l.length = ln at *
  obtain ⟨rn, ern⟩ : ∃ rn, rn = rs.length := ⟨_, rfl⟩
  rw [← ern]
  have ERN := hid ern
  clear hE hU hQ hA hR ern
  have B1 := Blk.new w 25 #[.slice U un cu, .int .i64 room, .slice Q qn cq]
  have G1 := (Grew.refl w).alloc (.cells #[.slice U un cu, .int .i64 room, .slice Q qn cq] 25)
  go_enter Tryd.func3, Tryd.ntmps3
  go_upto_region 1 with fail
  generalize w.alloc (.cells #[.slice U un cu, .int .i64 room, .slice Q qn cq] 25) = w1 at *
  generalize w.heap.size = gs at *
  have HG1 := hid G1
  have q0 := B1.cell 0
  have q1 := B1.cell 1
  have q2 := B1.cell 2
  have ql := B1.lt
  simp only [List.getElem?_toArray, List.getElem?_cons_zero, List.getElem?_cons_succ] at q0 q1 q2
  have hmade := HMa.out w1 HG1.out
  clear B1 G1 HMa
  go_wp2_with fail
  refine hmade.mono ?_
  intro e w2 hpost
  clear q0 q1 q2 ql hmade
  rcases hpost with ⟨rfl, hg2⟩ | ⟨hnc, hu20, hq20, v, C, L, cn, rfl, hH, hHs, hC⟩
  · have HG2 := hid (HG1.out.trans hg2)
    clear hg2
    go_wp2_with (go_at_call 8; refine (sure_c w2 (HE.out.grew HG2.out)).mono ?_; rintro e w3 ⟨rfl, hg3⟩)
    go_ret
    exact ⟨rfl, HG2.out.trans hg3⟩
  · have HSm := hid (show L.length ≤ 65536 from by rw [← hH.its]; exact hH.ok.small)
    have HVu := hid (show v.up = up ∧ v.cn = cn from ⟨hH.up, hH.cn⟩)
    have HLOk := hid (show ∀ x ∈ L, Ob.mayB up.length x.o = true ∧ N64 x.i ∧ N64 x.h from fun x hx => by
      have h1 := hH.range x hx
      have hx' := hx
      rw [← hH.its] at hx'
      exact ⟨by rw [← hH.up]; exact hH.ok.ok x hx', ⟨by omega, by omega⟩, hH.ok.hs x hx'⟩)
    have HU8 := hid (show up.length ≤ 8 by rw [← hH.up]; exact hH.ok.lens.2)
    have HSrt := hid hH.sorted
    have HH := hid hH
    have HG2 := hid (HG1.out.trans hH.gr)
    clear hnc hu20 hq20 hH hHs hC
    obtain ⟨sg, esg⟩ : ∃ sg, sg = v.g := ⟨_, rfl⟩
    rw [← esg]
    have ESG := hid esg
    clear esg
    obtain ⟨br, ebr⟩ : ∃ br, br = bigR rs := ⟨_, rfl⟩
    have EBR := hid ebr
    have HBr := hid (bigRoots_c R cr rs w2 (HR.out.grew HG2.out))
    rw [← ebr, ← ERN.out] at HBr
    clear ebr
    cases br
    · have HRt := hid (bigR_fit EBR.out.symm)
      go_upto_region 4 with (go_at_call 7; refine HBr.out.mono ?_; rintro e w3 ⟨rfl, hg3⟩; have HG3 := hid hg3; clear hg3)
      have HH3 := hid (HH.out.more HG3.out)
      have hall := hAll_c v w1.heap.size C w3 HH3.out.mem HH3.out.ok
      rw [← ESG.out] at hall
      clear HBr HH
      go_wp2_with fail
      refine hall.mono ?_
      rintro e w4 ⟨A1, c1, l1, A2, c2, rfl, hI1, hE1, hC1, hg4⟩
      have HI1 := hid hI1
      have HI4 := hid hI1
      have HE1 := hid (hE1.trans HH3.out.its)
      have HC1 := hid hC1
      have HG4 := hid hg4
      have HH4 := hid (HH3.out.more hg4)
      have HLo := hid (show ∀ k, HOwns v k → k < w3.heap.size from fun k hk => (HH3.out.mem.owns hk).2)
      clear hall hI1 hE1 hC1 hg4 HH3
      obtain ⟨n1, en1⟩ : ∃ n1, n1 = l1.length := ⟨_, rfl⟩
      rw [← en1]
      have EN1 := hid en1
      have B5 := Blk.new w4 32 #[.slice A1 n1 c1]
      have G5 := (Grew.refl w4).alloc (.cells #[.slice A1 n1 c1] 32)
      clear en1
      go_upto_region 5 with fail
      generalize w4.alloc (.cells #[.slice A1 n1 c1] 32) = w5 at *
      obtain ⟨gb, egb⟩ : ∃ gb, gb = w4.heap.size := ⟨_, rfl⟩
      rw [← egb] at B5 ⊢
      have HB5 := hid B5
      have HG5 := hid G5
      have HH5 := hid (HH4.out.more G5)
      have EGB := hid egb
      clear B5 G5 egb HH4
      -- the first collection
      have HGi := hid (fun W (hW : Grew w W) => giveRoots_c R cr rs W (HR.out.grew hW) (by have := HRt.out.1; omega) (fun x hx => by have := HRt.out.2 x hx; omega))
      unfold GiveR at HGi
      rw [← ERN.out] at HGi
      have HRv := hid (fun x hx u hu => (HR.out.ok x hx).1 u hu)
      have HGw5 := hid (((HG2.out.trans HG3.out).trans HG4.out).trans HG5.out)
      have hgive := HGi.out w5 HGw5.out
      go_wp2_with fail
      refine hgive.mono ?_
      rintro e w6 ⟨A6, c6, l6, rfl, hr6, hm6, hf6, hg6⟩
      have HL6 := hid (lists_row hr6 hf6 (fun x hx u hu => by obtain ⟨y, hy, e⟩ := map_l_mem hm6 hx; exact HRv.out y hy u (by rw [e]; exact hu)))
      have HM6 := hid hm6
      have HH6 := hid (HH5.out.more hg6)
      have HG6 := hid hg6
      clear hgive hr6 hm6 hf6 hg6 HH5
      have hcol := hCollect_c v w1.heap.size C A6 c6 l6 w6 HH6.out.mem HH6.out.ok HL6.out (by have h1 := congrArg List.length HM6.out; simp only [List.length_map] at h1; have := HRt.out.1; omega) (fun x hx => by obtain ⟨y, hy, e⟩ := map_l_mem HM6.out hx; have := HRt.out.2 y hy; rw [← e]; omega)
      rw [← ESG.out, map_l_flat HM6.out] at hcol
      go_wp2_with fail
      refine hcol.mono ?_
      intro e w7 hpost
      obtain ⟨v2, rfl, hg2, hs2, hh2⟩ := HH6.out.collect hpost
      have HH7 := hid hh2
      have ESG2 := hid (show sg = v2.g by rw [hg2, ← ESG.out])
      have HS7 := hid hs2
      have HKo := hid hs2.owns
      have HI7 := hid (((HI1.out.grew HG5.out).grew HG6.out).kept hs2.kept (fun k hk => HLo.out k hk))
      have HB7 := hid ((HB5.out.grew HG6.out).kept hs2.kept (HH6.out.mem.alien (HB5.out.grew HG6.out) (by decide) (by decide) (by decide) (by decide)))
      have HC7 := hid (Row.kept (Row.grew (Row.grew HC1.out HG5.out) HG6.out) hs2.kept (fun g hA hk => by have h1 := Row.at_base HC1.out g ⟨_, hA, rfl⟩; have h2 := HLo.out g hk; omega))
      clear hcol hpost hg2 hs2 hh2 HL6 HM6 HH6 HI1 HB5 HC1 HS7
      -- what is left
      have hall := hAll_c v2 w1.heap.size C w7 HH7.out.mem HH7.out.ok
      rw [← ESG2.out] at hall
      go_upto_region 6 with fail
      go_wp2_with fail
      refine hall.mono ?_
      rintro e w8 ⟨A3, c3, l2, A4, c4, rfl, hI2, hE2, hC2, hg8⟩
      have HI2 := hid hI2
      have HE2 := hid (hE2.trans HH7.out.its)
      have HC2 := hid hC2
      have HI8 := hid (HI7.out.grew hg8)
      have HB8 := hid (HB7.out.grew hg8)
      have HC8 := hid (Row.grew HC7.out hg8)
      have HH8 := hid (HH7.out.more hg8)
      have HLo2 := hid (show ∀ k, HOwns v2 k → k < w7.heap.size from fun k hk => (HH7.out.mem.owns hk).2)
      clear hall hI2 hE2 hC2 hg8 HH7 HI7 HB7 HC7
      have HVu2 := hid (show v2.up = up ∧ v2.cn = cn from ⟨HH8.out.up, HH8.out.cn⟩)
      obtain ⟨n2, en2⟩ : ∃ n2, n2 = l2.length := ⟨_, rfl⟩
      have hLn : L.length = n1 := by rw [EN1.out, ← HE1.out]; simp [ivI]
      have hKn : (Hp.kept L (flat rs)).length = n2 := by rw [en2, ← HE2.out]; simp [ivI]
      have HKn := hid hKn
      have EN2 := hid en2
      have hn1 : (n1 : Int) ≤ 65536 := by
        have h1 := hLn
        have h2 := HSm.out
        omega
      have hn12 : n2 ≤ n1 := by rw [← hLn, ← hKn]; exact List.length_filter_le _ _
      rw [hLn, hKn, ← en2, HVu.out.1, HVu2.out.1]
      have HInts := hid (ints_c A2 c2 A4 c4 (cntL up.length cn) w8 (by have h1 := HC8.out; rw [HVu.out.1, HVu.out.2] at h1; exact ints_row (by rw [show (cntL up.length cn).length = up.length by simp [cntL]]; exact h1)) (by have h1 := HC2.out; rw [HVu2.out.1, HVu2.out.2] at h1; exact ints_row (by rw [show (cntL up.length cn).length = up.length by simp [cntL]]; exact h1)) (by have := HH8.out.ok.lens.2; rw [HVu2.out.1] at this; simp [cntL]; omega))
      rw [show (cntL up.length cn).length = up.length by simp [cntL]] at HInts
      have HLn := hid (fun W (hW : Grew w8 W) => hLen_c v2 w1.heap.size W (HH8.out.mem.grew hW))
      rw [HH8.out.ok.n, HH8.out.its, hKn, ← ESG2.out] at HLn
      have hwr := wrap64 (x := (n1 : Int) - (n2 : Int)) (by omega) (by omega)
      have HGw8 := hid (HH8.out.gr)
      clear en2 hLn hKn HC8 HC2
      go_wp2_with fail
      refine HInts.out.mono ?_
      rintro e w9 ⟨rfl, hg9⟩
      have HG9 := hid hg9
      have y0 := (HB8.out.grew hg9).cell 0
      have yl := (HB8.out.grew hg9).lt
      simp only [List.getElem?_toArray, List.getElem?_cons_zero] at y0
      clear hg9 HInts
      go_wp2_with fail
      refine (HLn.out _ HG9.out).mono ?_
      rintro e w10 ⟨rfl, hg10⟩
      have HG10 := hid (HG9.out.trans hg10)
      have HH10 := hid (HH8.out.more HG10.out)
      have hgive := HGi.out w10 (HG1.out.trans HH10.out.gr)
      clear hg10 y0 yl HLn HG9
      go_wp2_with fail
      refine hgive.mono ?_
      rintro e w11 ⟨A11, c11, l11, rfl, hr11, hm11, hf11, hg11⟩
      have HL11 := hid (lists_row hr11 hf11 (fun x hx u hu => by obtain ⟨y, hy, e⟩ := map_l_mem hm11 hx; exact HRv.out y hy u (by rw [e]; exact hu)))
      have HM11 := hid hm11
      have HH11 := hid (HH10.out.more hg11)
      have HG11 := hid (HG10.out.trans hg11)
      clear hgive hr11 hm11 hf11 hg11 HH10 HG10
      have hcol := hCollect_c v2 w1.heap.size C A11 c11 l11 w11 HH11.out.mem HH11.out.ok HL11.out (by have h1 := congrArg List.length HM11.out; simp only [List.length_map] at h1; have := HRt.out.1; omega) (fun x hx => by obtain ⟨y, hy, e⟩ := map_l_mem HM11.out hx; have := HRt.out.2 y hy; rw [← e]; omega)
      rw [← ESG2.out, map_l_flat HM11.out] at hcol
      go_wp2_with fail
      refine hcol.mono ?_
      intro e w12 hpost
      obtain ⟨v3, rfl, hg3', hs3, hh3⟩ := HH11.out.collect hpost
      rw [Hp.kept_kept] at hh3
      rw [Hp.kept_kept, show (((Hp.kept L (flat rs)).length : Int) - ((Hp.kept L (flat rs)).length : Int)) = 0 by omega]
      have HH12 := hid hh3
      have ESG3 := hid (show sg = v3.g by rw [hg3', ← ESG2.out])
      have HI12 := hid ((HI8.out.grew HG11.out).kept2 HI4.out hs3.kept (fun k hk => by
        rcases HKo.out k hk with h1 | h1
        · exact .inl (HLo.out k h1)
        · exact .inr (by have h2 := HG5.out.below.size; have h3 := HG6.out.below.size; omega)))
      have HJ12 := hid ((HI2.out.grew HG11.out).kept2 (w4 := w8) HI2.out hs3.kept (fun k hk => .inl (HLo2.out k hk)))
      have HB12 := hid ((HB8.out.grew HG11.out).kept hs3.kept (HH11.out.mem.alien (HB8.out.grew HG11.out) (by decide) (by decide) (by decide) (by decide)))
      clear hcol hpost hg3' hs3 hh3 HL11 HM11 HH11 HI8 HI2 HB8
      go_upto_region 10 with fail
      have hgive := HGi.out w12 (HG1.out.trans HH12.out.gr)
      go_wp2_with fail
      refine hgive.mono ?_
      rintro e w13 ⟨A13, c13, l13, rfl, hr13, hm13, hf13, hg13⟩
      have HL13 := hid hr13
      have HF13 := hid hf13
      have HM13 := hid hm13
      have HG13 := hid hg13
      obtain ⟨K, eK⟩ : ∃ K, K = Hp.kept L (flat rs) := ⟨_, rfl⟩
      have EK := hid eK
      rw [← eK] at HE2 HH12 HKn
      have HIt1 := hid (HI12.out.at (n := up.length) (by have := HU8.out; omega) (fun x hx => HLOk.out ⟨x.i, x.h, x.o⟩ (by rw [← HE1.out]; exact List.mem_map.2 ⟨x, hx, rfl⟩)))
      have HIt2 := hid (HJ12.out.at (n := up.length) (by have := HU8.out; omega) (fun x hx => HLOk.out ⟨x.i, x.h, x.o⟩ (by
        have h1 : (⟨x.i, x.h, x.o⟩ : Hp.It) ∈ K := by rw [← HE2.out]; exact List.mem_map.2 ⟨x, hx, rfl⟩
        rw [eK] at h1
        exact (Hp.mem_kept.1 h1).1)))
      have HKL := hid (show ∀ x ∈ K, x ∈ L from fun x hx => by rw [eK] at hx; exact (Hp.mem_kept.1 hx).1)
      have HKs := hid (show Hp.Sorted K by rw [eK]; exact Hp.kept_sorted _ HSrt.out)
      obtain ⟨m0, em0⟩ : ∃ m0, m0 = l13.length := ⟨_, rfl⟩
      have EM0 := hid em0
      rw [← em0]
      have hm0 : m0 ≤ 10 := by
        have h1 := congrArg List.length hm13
        simp only [List.length_map] at h1
        have := HRt.out.1
        omega
      have HGw12 := hid (HG1.out.trans HH12.out.gr)
      clear hgive hr13 hm13 hf13 hg13 eK em0 HI12 HJ12
      generalize HQ : w12.heap.size = B13 at *
      have HB13 := hid HQ
      clear HQ
      go_upto_region 13 with fail
      go_loopw [14, 15, 16] (fun s14 s15 s16 wr => ∃ (i k : Nat) (A' : Option Addr) (c' : Nat), s16 = .int .i64 ((i : Nat) : Int) ∧ i ≤ n2 ∧ s15 = .int .i64 ((k : Nat) : Int) ∧ k ≤ n1 ∧ s14 = .slice A' (m0 + i) c' ∧ Hid (Row wr B13 40 1 A' (m0 + i) c' ((l13 ++ (l2.take i).map (fun x => (⟨x.A, x.c, x.o.f⟩ : LV))).flatMap lvF)) ∧ Hid (∀ z ∈ L.take k, ∀ x ∈ K.drop i, z.i < x.i) ∧ Hid (∀ x ∈ l13, Row wr B13 48 3 x.A x.l.length x.c (x.l.flatMap valF)) ∧ Hid (Grew w12 wr)) (fun _ _ s16 _ => n2 - (intOf s16).toNat)
      case atStart => exact ⟨0, 0, A13, c13, rfl, Nat.zero_le _, rfl, Nat.zero_le _, rfl, hid (by have := HL13.out; rw [← EM0.out] at this; simpa using this), hid (by simp), HF13, HG13⟩
      case round =>
        obtain ⟨i, k, A', c', rfl, hi, rfl, hk, rfl, HRo, HZ, HFo, HG⟩ := hrel
        by_cases hlt : i < n2
        · have f1 : (i : Int) < (n2 : Int) := by omega
          obtain ⟨a2, x2, rfl, hx2, hcl2, hb2, hok2, -, -⟩ := iv_at HIt2.out (Grew.refl _) (i := i) (by rw [← EN2.out]; exact hlt)
          have HKi := hid (show K[i]? = some ⟨x2.i, x2.h, x2.o⟩ by rw [← HE2.out]; unfold ivI; rw [List.getElem?_map, hx2]; rfl)
          have HX2 := hid hx2
          have HC2 : Hid (∀ W, Grew w12 W → (∀ j u, (ivF x2)[j]? = some u → W.cell? ((a2.add (i * 6)).add j) = some u) ∧ a2.block < W.heap.size) := hid (fun W hW => ⟨fun j u hu => by rw [hW.below.cell (by rw [block_add, block_add]; exact hb2)]; exact hcl2 j u hu, Nat.lt_of_lt_of_le hb2 hW.below.size⟩)
          have HZi := hid (show ∀ z ∈ L.take k, z.i < x2.i from fun z hz => HZ.out z hz _ (List.mem_iff_getElem?.2 ⟨0, by rw [List.getElem?_drop, Nat.add_zero]; exact HKi.out⟩))
          have HMi := hid (show (⟨x2.i, x2.h, x2.o⟩ : Hp.It) ∈ L from HKL.out _ (List.mem_of_getElem? HKi.out))
          clear hcl2 hb2 hok2 hx2
          go_wp2_with fail
          go_loopw [15] (fun s15 wr => ∃ (k : Nat), s15 = .int .i64 ((k : Nat) : Int) ∧ k ≤ n1 ∧ Hid (∀ z ∈ L.take k, z.i < x2.i) ∧ Hid (Row wr B13 40 1 A' (m0 + i) c' ((l13 ++ (l2.take i).map (fun x => (⟨x.A, x.c, x.o.f⟩ : LV))).flatMap lvF)) ∧ Hid (∀ x ∈ l13, Row wr B13 48 3 x.A x.l.length x.c (x.l.flatMap valF)) ∧ Hid (Grew w12 wr)) (fun s15 _ => n1 - (intOf s15).toNat)
          case atStart => exact ⟨k, rfl, hk, HZi, HRo, HFo, HG⟩
          case round =>
            obtain ⟨k, rfl, hk, HZk, HRo, HFo, HG⟩ := hrel
            have hkl : k < n1 := by
              rcases Nat.lt_or_ge k n1 with h1 | h1
              · exact h1
              · exfalso
                have h2 : k = L.length := by
                  have h3 : n1 = L.length := by rw [EN1.out, ← HE1.out]; simp [ivI]
                  omega
                have h4 := HZk.out
                rw [h2] at h4
                exact stays_end HMi.out h4
            have g1 : (k : Int) < (n1 : Int) := by omega
            obtain ⟨a1, x1, rfl, hx1, hcl1, hb1, hok1, -, -⟩ := iv_at HIt1.out (Grew.refl _) (i := k) (by rw [← EN1.out]; exact hkl)
            have HLk := hid (show L[k]? = some ⟨x1.i, x1.h, x1.o⟩ by rw [← HE1.out]; unfold ivI; rw [List.getElem?_map, hx1]; rfl)
            have HX1 := hid hx1
            have HC1 : Hid (∀ W, Grew w12 W → (∀ j u, (ivF x1)[j]? = some u → W.cell? ((a1.add (k * 6)).add j) = some u) ∧ a1.block < W.heap.size) := hid (fun W hW => ⟨fun j u hu => by rw [hW.below.cell (by rw [block_add, block_add]; exact hb1)]; exact hcl1 j u hu, Nat.lt_of_lt_of_le hb1 hW.below.size⟩)
            clear hcl1 hb1 hok1 hx1
            have HBw := hid (HB12.out.grew HG.out)
            have c10 := fun (y : After wr) => ((HC1.out y.w (HG.out.trans y.grew)).1 0 _ rfl)
            have c1l := fun (y : After wr) => (HC1.out y.w (HG.out.trans y.grew)).2
            have c20 := fun (y : After wr) => ((HC2.out y.w (HG.out.trans y.grew)).1 0 _ rfl)
            have c2l := fun (y : After wr) => (HC2.out y.w (HG.out.trans y.grew)).2
            simp only [add_zero] at c10 c20
            have b0 := fun (y : After wr) => (HBw.out.grew y.grew).cell 0
            have bl := fun (y : After wr) => (HBw.out.grew y.grew).lt
            simp only [List.getElem?_toArray, List.getElem?_cons_zero] at b0
            by_cases he : x1.i = x2.i
            · have he' : (x1.i == x2.i) = true := by rw [he]; simp
              go_upto_region 15 with fail
              refine wp_region_grew_from (w0 := wr) (Grew.refl wr) (by kernel_rfl) (by kernel_rfl) ?_
              repeat (go_big_quiet_step (fail))
              refine wpQuiet_nil ?_
              rintro _ ⟨y, rfl⟩
              clear c10 c1l c20 c2l b0 bl
              have HGy := hid (HG.out.trans y.grew)
              have HRy := hid (HRo.out.grew y.grew)
              have HFy := hid (fun x hx => (HFo.out x hx).grew y.grew)
              clear HBw HRo HG HFo
              generalize y.w = wy at *
              have hxe : (⟨x1.i, x1.h, x1.o⟩ : Hp.It) = ⟨x2.i, x2.h, x2.o⟩ := Hp.sorted_one HSrt.out (List.mem_of_getElem? HLk.out) HMi.out he
              have hxh : x1.h = x2.h := congrArg Hp.It.h hxe
              have hxo : x1.o = x2.o := congrArg Hp.It.o hxe
              have HBw := hid (HB12.out.grew HGy.out)
              have c1 := fun (j : Nat) (u : Value) (hu : (ivF x1)[j]? = some u) (y : After wy) => ((HC1.out y.w (HGy.out.trans y.grew)).1 j u hu)
              have c2 := fun (j : Nat) (u : Value) (hu : (ivF x2)[j]? = some u) (y : After wy) => ((HC2.out y.w (HGy.out.trans y.grew)).1 j u hu)
              have c11 := c1 1 _ rfl
              have c12 := c1 2 _ rfl
              have c13 := c1 3 _ rfl
              have c14 := c1 4 _ rfl
              have c15 := c1 5 _ rfl
              have c21 := c2 1 _ rfl
              have c22 := c2 2 _ rfl
              have c23 := c2 3 _ rfl
              have c24 := c2 4 _ rfl
              have c25 := c2 5 _ rfl
              simp only [add_pos (show (1 : Nat) ≠ 0 by decide), add_pos (show (2 : Nat) ≠ 0 by decide), add_pos (show (3 : Nat) ≠ 0 by decide), add_pos (show (4 : Nat) ≠ 0 by decide), add_pos (show (5 : Nat) ≠ 0 by decide), block_add] at c11 c12 c13 c14 c15 c21 c22 c23 c24 c25
              have c1l := fun (y : After wy) => (HC1.out y.w (HGy.out.trans y.grew)).2
              have c2l := fun (y : After wy) => (HC2.out y.w (HGy.out.trans y.grew)).2
              have b0 := fun (y : After wy) => (HBw.out.grew y.grew).cell 0
              have bl := fun (y : After wy) => (HBw.out.grew y.grew).lt
              simp only [List.getElem?_toArray, List.getElem?_cons_zero] at b0
              have HSm1 := hid (fun W (hW : Grew w12 W) => same_c x2.o x1.A x1.c x2.A x2.c W (by have h1 := (HIt1.out.ok x1 (List.mem_of_getElem? HX1.out)).1.f; rw [show (OV.mk x1.o x1.A x1.c).o.f = x2.o.f by rw [← hxo]] at h1; exact h1.grew hW) ((HIt2.out.ok x2 (List.mem_of_getElem? HX2.out)).1.f.grew hW) (by have h1 := hp_head (HLOk.out _ HMi.out).1; simp only at h1; omega))
              have hkne : ((k : Int) == (n1 : Int)) = false := by rw [beq_eq_false_iff_ne]; omega
              rw [hxh] at c11
              rw [hxo] at c12 c13 c14 c15
              have HXe := hid (And.intro hxh hxo)
              clear c1 c2 hxe hxh hxo
              go_upto_region 17 with fail
              refine wp_region_grew_from (w0 := wy) (Grew.refl wy) (by kernel_rfl) (by kernel_rfl) ?_
              repeat (go_big_quiet_step (first | (go_at_call 15; exact Calls.grew (After.grew _) (HSm1.out _ (HGy.out.trans (After.grew _))))))
              refine wpQuiet_nil ?_
              rintro _ ⟨y, rfl⟩
              clear c11 c12 c13 c14 c15 c21 c22 c23 c24 c25 c1l c2l b0 bl
              have HGz := hid (HGy.out.trans y.grew)
              have HRz := hid (HRy.out.grew y.grew)
              have HFz := hid (fun x hx => (HFy.out x hx).grew y.grew)
              clear HBw HRy HGy HFy
              generalize y.w = wz at *
              have hc4 := (HC2.out wz HGz.out).1 4 _ rfl
              have hcl := (HC2.out wz HGz.out).2
              simp only [add_pos (show (4 : Nat) ≠ 0 by decide), block_add] at hc4
              have hnk : m0 + i ≤ 100000 := by have := HSm.out; omega
              have HTk := hid (show (l13 ++ (l2.take (i + 1)).map (fun x => (⟨x.A, x.c, x.o.f⟩ : LV))).flatMap lvF = (l13 ++ (l2.take i).map (fun x => (⟨x.A, x.c, x.o.f⟩ : LV))).flatMap lvF ++ [.slice x2.A x2.o.f.length x2.c] by rw [List.take_add_one, HX2.out]; simp [lvF])
              have HMx := hid (List.mem_of_getElem? HX2.out)
              obtain ⟨x2i, x2h, x2o, x2A, x2c⟩ := x2
              simp only at hc4 HTk
              obtain ⟨m, em⟩ : ∃ m, m = x2o.f.length := ⟨_, rfl⟩
              rw [← em] at hc4 HTk
              clear em
              go_upto_region 19 with fail
              go_wp2_with (at_builtin; refine wpList_pushR (.slice none 0 0) 24 wz rfl _ _ 36 40 rfl Tryd.underlying36 vals_info rfl B13 (by have := HB13.out; have := HGz.out.below.size; omega) A' (m0 + i) c' _ rfl HRz.out _ rfl rfl (.slice x2A m x2c) rfl (by omega) (by omega) ?_; rintro A8 k8 w8 hR8 hK8 hT8; have HR8 := hid hR8; have HK8 := hid hK8; have HG8 := hid (hK8.grew HGz.out (fun k hk => by have h1 := Row.at_base HRz.out k hk; have := HB13.out; omega)); clear hR8 hK8 hT8)
              go_round
              case rel =>
                refine ⟨i + 1, k, A8, k8, by go_num, by omega, rfl, hk, rfl, hid ?_, hid (fun z hz x hx => ?_), hid (fun x hx => ?_), HG8⟩
                · rw [HTk.out]
                  exact HR8.out
                · exact Int.lt_trans (HZk.out z hz) (stays_drop HKs.out HKi.out hx)
                · exact (HFz.out x hx).kept HK8.out (fun g hA hk => by
                    obtain ⟨ds, hd⟩ := HRz.out.blkAt hk
                    obtain ⟨es, he⟩ := (HFz.out x hx).blkAt (k := g) ⟨_, hA, rfl⟩
                    exact absurd (hd.ty he).1 (by decide))
              case measure => simp [intOf]; omega
            · have he' : (x1.i == x2.i) = false := by rw [beq_eq_false_iff_ne]; exact he
              go_upto_region 15 with fail
              refine wp_region_grew_from (w0 := wr) (Grew.refl wr) (by kernel_rfl) (by kernel_rfl) ?_
              repeat (go_big_quiet_step (fail))
              refine wpQuiet_nil ?_
              rintro _ ⟨y, rfl⟩
              clear c10 c1l c20 c2l b0 bl
              go_wp2_with fail
              go_round
              case rel => exact ⟨k + 1, by go_num, by omega, hid (stays_next HSrt.out HLk.out HMi.out HZk.out he), hid (HRo.out.grew y.grew), hid (fun x hx => (HFo.out x hx).grew y.grew), hid (HG.out.trans y.grew)⟩
              case measure => simp [intOf]; omega
        · have f1 : ¬ (i : Int) < (n2 : Int) := by omega
          have hin : i = n2 := by omega
          subst hin
          obtain ⟨AK, eAK⟩ : ∃ AK, AK = l13 ++ l2.map (fun x => (⟨x.A, x.c, x.o.f⟩ : LV)) := ⟨_, rfl⟩
          have hAK : m0 + i = AK.length := by rw [eAK, List.length_append, List.length_map, EM0.out, EN2.out]
          have HAK := hid (lists_of (l := AK) (by have h1 := HRo.out; rw [EN2.out, List.take_length, ← eAK, ← EN2.out] at h1; exact h1) hAK (fun x hx => by
            rw [eAK] at hx
            rcases List.mem_append.1 hx with hx | hx
            · exact row_vals (HFo.out x hx) rfl (by obtain ⟨y, hy, e⟩ := map_l_mem HM13.out hx; exact fun u hu => HRv.out y hy u (by rw [e]; exact hu))
            · obtain ⟨y, hy, rfl⟩ := List.mem_map.1 hx
              exact ((HIt2.out.ok y hy).1.f.grew HG.out)))
          have HAs := hid (show ∀ x ∈ AK, ∀ u ∈ x.l, u.k = 4 → wasB L u.n = true → ∃ y, Hp.find K u.n = some y from fun x hx u hu hk hw => by
            have hr : Hp.IsRef L u := ⟨hk, by
              unfold wasB at hw
              obtain ⟨y, hy⟩ := Option.isSome_iff_exists.1 hw
              exact ⟨y, Hp.find_mem hy⟩⟩
            have hre : Hp.Reach L (flat rs) u.n := by
              rw [eAK] at hx
              rcases List.mem_append.1 hx with hx | hx
              · refine .root ?_ hr
                rw [← map_l_flat HM13.out]
                exact List.mem_flatMap.2 ⟨x, hx, hu⟩
              · obtain ⟨y, hy, rfl⟩ := List.mem_map.1 hx
                have h1 : (⟨y.i, y.h, y.o⟩ : Hp.It) ∈ K := by rw [← HE2.out]; exact List.mem_map.2 ⟨y, hy, rfl⟩
                rw [EK.out] at h1
                obtain ⟨h2, h3⟩ := Hp.mem_kept.1 h1
                exact .step h2 h3 hu hr
            obtain ⟨y, hy, e⟩ := hr.2
            refine ⟨y, ?_⟩
            rw [← e]
            refine Hp.find_of HKs.out ?_
            rw [EK.out]
            exact Hp.mem_kept.2 ⟨hy, by rw [e]; exact hre⟩)
          have HAl := hid (show ∀ x ∈ AK, x.l.length ≤ 100000 from fun x hx => by
            rw [eAK] at hx
            rcases List.mem_append.1 hx with hx | hx
            · obtain ⟨y, hy, e⟩ := map_l_mem HM13.out hx
              have := HRt.out.2 y hy
              rw [← e]
              omega
            · obtain ⟨y, hy, rfl⟩ := List.mem_map.1 hx
              have h1 : (⟨y.i, y.h, y.o⟩ : Hp.It) ∈ L := HKL.out _ (by rw [← HE2.out]; exact List.mem_map.2 ⟨y, hy, rfl⟩)
              have h2 := hp_head (HLOk.out _ h1).1
              simp only at h2
              have h3 := h2.2.2.2.2.1
              show y.o.f.length ≤ 100000
              omega)
          have hnA : ((AK.length : Nat) : Int) ≤ 100000 := by have := HSm.out; omega
          have hl1 : l1.length ≤ 65536 := by
            have h2 := HSm.out
            have h3 : n1 = L.length := by rw [EN1.out, ← HE1.out]; simp [ivI]
            have h4 := EN1.out
            omega
          have HW := hid (fun W (hW : Grew w12 W) (u : Int) => was_c A1 c1 l1 gb u W (HIt1.out.grew hW) (by rw [← EN1.out]; exact HB12.out.grew hW) hl1)
          clear hl1
          rw [HE1.out] at HW
          have HGet := hid (fun W (hW : Grew w12 W) (u : Int) => (HH12.out.more hW).get u)
          rw [← ESG3.out] at HGet
          have HSu := hid (fun W (hW : Grew w12 W) => sure_c W (HE.out.grew (HGw12.out.trans hW)))
          rw [hAK]
          obtain ⟨nA, enA⟩ : ∃ nA, nA = AK.length := ⟨_, rfl⟩
          rw [← enA] at hnA ⊢
          have ENA := hid enA
          have HG0 := hid HG.out
          clear hAK enA HRo HFo HZ HG HIt1 HIt2 HB12 HH12 HE1 HE2 eAK
          obtain ⟨wo, ewo⟩ : ∃ wo, wo = wr := ⟨_, rfl⟩
          subst ewo
          go_wp2_with fail
          go_loopw [17] (fun s17 wr => ∃ (j : Nat), s17 = .int .i64 ((j : Nat) : Int) ∧ j ≤ nA ∧ Hid (Grew wo wr)) (fun s17 _ => nA - (intOf s17).toNat)
          case atStart => exact ⟨0, rfl, Nat.zero_le _, hid (Grew.refl _)⟩
          case round =>
            obtain ⟨j, rfl, hj, HG⟩ := hrel
            by_cases hlt : j < nA
            · have f2 : (j : Int) < (nA : Int) := by omega
              obtain ⟨aA, x, rfl, hx, hq, hb, hv⟩ := list_at HAK.out HG.out (i := j) (by rw [← ENA.out]; exact hlt)
              have HMx := hid (List.mem_of_getElem? hx)
              have HV := hid hv
              have HQ : Hid (∀ W, Grew wo W → W.cell? (aA.add j) = some (.slice x.A x.l.length x.c) ∧ aA.block < W.heap.size) := hid (fun W hW => by
                obtain ⟨aB, y, e, hy, h1, h2, -⟩ := list_at HAK.out hW (i := j) (by rw [← ENA.out]; exact hlt)
                cases e
                rw [hx] at hy
                cases hy
                exact ⟨h1, h2⟩)
              clear hx hq hb hv
              obtain ⟨xA, xc, xl⟩ := x
              simp only at HMx HV HQ
              obtain ⟨m, em⟩ : ∃ m, m = xl.length := ⟨_, rfl⟩
              rw [← em] at HQ
              have hmm : (m : Int) ≤ 100000 := by have h1 := HAl.out _ HMx.out; simp only at h1; omega
              have EM := hid em
              clear em
              go_wp2_with fail
              go_loopw [18] (fun s18 wr => ∃ (t : Nat), s18 = .int .i64 ((t : Nat) : Int) ∧ t ≤ m ∧ Hid (Grew wo wr)) (fun s18 _ => m - (intOf s18).toNat)
              case atStart => exact ⟨0, rfl, Nat.zero_le _, HG⟩
              case round =>
                obtain ⟨t, rfl, ht, HG⟩ := hrel
                obtain ⟨hq, hb⟩ := HQ.out wr HG.out
                by_cases hlt3 : t < m
                · have f3 : (t : Int) < (m : Int) := by omega
                  obtain ⟨aV, u, rfl, hu, p0, p1, p2, hbv, hok⟩ := val_at HV.out HG.out (i := t) (by rw [← EM.out]; exact hlt3)
                  have HMu := hid (HAs.out _ HMx.out u (List.mem_of_getElem? hu))
                  clear hu hok
                  obtain ⟨uk, un', ul⟩ := u
                  simp only at p0 p1 p2 HMu
                  go_upto_region 27 with fail
                  obtain ⟨gv, egv⟩ : ∃ gv, gv = wr.heap.size := ⟨_, rfl⟩
                  have BV := Blk.new wr 48 #[.int .u8 ((uk : Nat) : Int), .int .i64 un', .int .i64 ul]
                  have GV := (Grew.refl wr).alloc (.cells #[.int .u8 ((uk : Nat) : Int), .int .i64 un', .int .i64 ul] 48)
                  rw [← egv] at BV ⊢
                  generalize wr.alloc (.cells #[.int .u8 ((uk : Nat) : Int), .int .i64 un', .int .i64 ul] 48) = wb at *
                  have HGb := hid (HG.out.trans GV)
                  have HBV := hid BV
                  have v1 := BV.cell 1
                  have vl := BV.lt
                  simp only [List.getElem?_toArray, List.getElem?_cons_zero, List.getElem?_cons_succ] at v1
                  clear BV GV egv p0 p1 p2 hq hb hbv HG
                  go_wp2_with fail
                  refine (HGet.out _ (HG0.out.trans HGb.out) _).mono ?_
                  rintro e wc ⟨⟨x0, x1, x2, x3, x4, x5, rfl⟩, hgc⟩
                  have HGc := hid (HGb.out.trans hgc)
                  have HBc := hid (HBV.out.grew hgc)
                  have hbc := HBc.out.lt
                  obtain ⟨ev, eev⟩ : ∃ ev, ev = errVal (if (Hp.find K un').isSome = true then 0 else 3) := ⟨_, rfl⟩
                  rw [← eev]
                  have EEV := hid eev
                  clear v1 vl hgc eev
                  go_upto_region 28 with fail
                  have GD := (Grew.refl wc).alloc (.cells #[.int .i64 x0, .int .i64 x1, .slice x2 x3 x4, .string x5] 42)
                  have HBd := hid (HBc.out.grew GD)
                  have HGd := hid (HGc.out.trans GD)
                  clear HBc HGc hbc HBV HGb GD
                  generalize wc.alloc (.cells #[.int .i64 x0, .int .i64 x1, .slice x2 x3 x4, .string x5] 42) = wd at *
                  have v0 := HBd.out.cell 0
                  have v1 := HBd.out.cell 1
                  have vl := HBd.out.lt
                  simp only [List.getElem?_toArray, List.getElem?_cons_zero, List.getElem?_cons_succ] at v0 v1
                  by_cases hk4 : uk = 4
                  · subst hk4
                    cases hw : wasB L un'
                    · have HWf := hid hw
                      clear hw
                      go_wp2_with (go_at_call 14; refine (HW.out _ (HG0.out.trans HGd.out) _).mono ?_; rintro e we ⟨⟨r, rfl, hr⟩, hge⟩; have hr2 : ¬ (0 ≤ r) := (by rw [hr, HWf.out]; simp); have HGe := hid (HGd.out.trans hge); clear hge hr)
                      go_round
                      case rel => exact ⟨t + 1, by go_num, by omega, HGe⟩
                      case measure => simp [intOf]; omega
                    · obtain ⟨y, hy⟩ := HMu.out rfl hw
                      have hev : ev = .nilIface := by rw [EEV.out, hy]; rfl
                      subst hev
                      have HWf := hid hw
                      clear hw hy EEV
                      go_wp2_with (go_at_call 14; refine (HW.out _ (HG0.out.trans HGd.out) _).mono ?_; rintro e we ⟨⟨r, rfl, hr⟩, hge⟩; have hr2 : 0 ≤ r := (by rw [hr, HWf.out]); have HGe := hid (HGd.out.trans hge); clear hge hr)
                      go_round
                      case rel => exact ⟨t + 1, by go_num, by omega, HGe⟩
                      case measure => simp [intOf]; omega
                  · have f4 : ¬ ((uk : Nat) : Int) = 4 := by omega
                    have f5 : (((uk : Nat) : Int) == 4) = false := by rw [beq_eq_false_iff_ne]; exact f4
                    go_wp2_with fail
                    go_round
                    case rel => exact ⟨t + 1, by go_num, by omega, HGd⟩
                    case measure => simp [intOf]; omega
                · have f3 : ¬ (t : Int) < (m : Int) := by omega
                  go_wp2_with fail
                  go_round
                  case rel => exact ⟨j + 1, by go_num, by omega, HG⟩
                  case measure => simp [intOf]; omega
            · have f2 : ¬ (j : Int) < (nA : Int) := by omega
              go_wp2_with (go_at_call 8; refine (HSu.out _ (HG0.out.trans HG.out)).mono ?_; rintro e w15 ⟨rfl, hg15⟩; have HG15 := hid hg15; clear hg15)
              go_ret
              exact ⟨rfl, ((HGw12.out.trans HG0.out).trans HG.out).trans HG15.out⟩
    · go_wp2_with first | (go_at_call 7; refine HBr.out.mono ?_; rintro e w3 ⟨rfl, hg3⟩; have HG3 := hid (HG2.out.trans hg3); clear hg3) | (go_at_call 8; refine (sure_c w3 (HE.out.grew HG3.out)).mono ?_; rintro e w4 ⟨rfl, hg4⟩)
      go_ret
      exact ⟨rfl, HG3.out.trans hg4⟩
end Go.Proofs.YtidnaednldcdfaaDoor

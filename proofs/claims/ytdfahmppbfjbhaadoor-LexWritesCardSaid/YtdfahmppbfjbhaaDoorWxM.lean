/- Stage 13: the program's own Text. -/
import Derived.Test.YtdfahmppbfjbhaaDoorWxL
namespace Go.Proofs.YtdfahmppbfjbhaaDoor
open Go.RowKit

theorem Blk.others {w w' : World} {b g : Nat} {t : TypeId} {cs : Array Value} (h : Blk w g t cs) (hk : Lib.OthersKept 5 (some b) w w') (hg : g ≠ b) (ht : t ≠ 5) : Blk w' g t cs :=
  hk g _ h (fun e => hg (Option.some.inj e)) (fun c fz e => by simp only [Obj.cells.injEq] at e; exact ht e.2.1)
theorem bWriteByte_k (B b : Nat) (l : List UInt8) (c : UInt8) (w : World) (h : Bld w B b l) (hl : l.length ≤ 1000000) (hB : B ≤ w.heap.size) :
    Calls Tryd.prog 28 #[.pointer (some ⟨b, 0, none⟩), .int .u8 ((c.toNat : Nat) : Int)] w fun e w' => e = .returned .nilIface ∧ BldTo w B b (l ++ [c]) w' ∧ Lib.OthersKept 5 (some b) w w' := by
  refine (Any.Builder_WriteByte_k Tryd.laysX Tryd.extraX B b (Lib.byteCells l) ((c.toNat : Nat) : Int) w h (by rw [Lib.byteCells_length]; omega) hB).mono ?_
  rintro e w' ⟨rfl, h1, h2, h3⟩
  refine ⟨rfl, ⟨.inr ?_, h2⟩, h3⟩
  rw [byteCells_app]
  exact h1
def mayAll (l : List Lx.Word) : Bool := l.all Lx.may
/-- What Text answers. -/
def TextPost (l : List Lx.Word) (w : World) (e : Ending) (w' : World) : Prop :=
  Grew w w' ∧ ((mayAll l = false ∧ e = .returned (.tuple #[.string ⟨#[]⟩, errVal 1])) ∨
  (mayAll l = true ∧ 65536 < (Lx.text l).length ∧ e = .returned (.tuple #[.string ⟨#[]⟩, errVal 4])) ∨
  (mayAll l = true ∧ (Lx.text l).length ≤ 65536 ∧ e = .returned (.tuple #[.string (ofL (Lx.text l)), .nilIface])))
theorem may_mem {l : List Lx.Word} (h : mayAll l = true) {x : Lx.Word} (hx : x ∈ l) : Lx.may x = true := List.all_eq_true.1 h x hx
theorem may_text {x : Lx.Word} (h : Lx.may x = true) : Lx.mayT x.k (bs x.s) = true := by
  unfold Lx.may at h
  rw [Bool.and_eq_true] at h
  exact h.2
theorem text_next {l : List Lx.Word} {i : Nat} {x : Lx.Word} (h : l[i]? = some x) : Lx.text (l.take (i + 1)) = if i = 0 then Lx.srcW x else Lx.text (l.take i) ++ 32 :: Lx.srcW x := by
  rw [List.take_add_one, h]
  show Lx.text (l.take i ++ [x]) = _
  rw [Lx.text_snoc]
  have hi := (List.getElem?_eq_some_iff.1 h).1
  by_cases h0 : i = 0
  · subst h0
    rfl
  · rw [if_neg h0, if_neg]
    rw [List.isEmpty_iff]
    intro e
    have := congrArg List.length e
    rw [List.length_take, List.length_nil] at this
    omega
set_option maxRecDepth 100000 in
set_option maxHeartbeats 8000000 in
theorem text_c (A : Option Addr) (cap : Nat) (l : List Lx.Word) (w : World) (h : WordsAt w A l) (hl : l.length ≤ 1000000) (hs : ∀ x ∈ l, x.s.size ≤ 4294967280) (hE : EnvAt w) :
    Calls Tryd.prog 14 #[.slice A l.length cap] w (TextPost l w) := by
  obtain ⟨n, en⟩ : ∃ n, n = l.length := ⟨_, rfl⟩
  have HA := hid h
  have HE := hid hE
  have HS := hid hs
  unfold TextPost
  rw [← en] at hl ⊢
  have EN := hid en
  clear h en hE hs
  go_enter Tryd.func14, Tryd.ntmps14
  go_wp2_with fail
  go_loopw [11] (fun s11 wr => ∃ i : Nat, s11 = .int .i64 ((i : Nat) : Int) ∧ i ≤ n ∧ Hid (mayAll (l.take i) = true) ∧ Hid (Grew w wr)) (fun s11 _ => n - (intOf s11).toNat)
  case atStart => exact ⟨0, rfl, Nat.zero_le _, hid rfl, hid (Grew.refl _)⟩
  case round =>
    obtain ⟨i, rfl, hi, HI, HG⟩ := hrel
    by_cases hlt : i < n
    · have f1 : (i : Int) < n := by omega
      obtain ⟨ad, x, rfl, hx, q0, q1, q2, hb, hk, _⟩ := word_at HA.out HG.out (i := i) (by rw [← EN.out]; exact hlt)
      have hmem : x ∈ l := List.mem_of_getElem? hx
      have HM := hid (fun W => may_c x.k hk x.s x.o (HS.out x hmem) W)
      have HT : Hid (mayAll (l.take (i + 1)) = Lx.may x) := hid (by
        have := HI.out
        unfold mayAll at this ⊢
        rw [List.take_add_one, hx, List.all_append, this]
        simp)
      have HX : Hid (Lx.may x = false → mayAll l = false) := hid (fun hf => by
        cases hm : mayAll l
        · rfl
        · have := may_mem hm hmem
          rw [hf] at this
          cases this)
      have ex : (⟨x.k, x.s, x.o⟩ : Lx.Word) = x := rfl
      rw [ex] at HM
      clear hx hmem
      generalize Lx.may x = b at *
      obtain ⟨k, s, o⟩ := x
      simp only at q0 q1 q2 HM
      have G1 := (Grew.refl wr).alloc (.cells #[.int .u8 ((k : Nat) : Int), .string s, .int .i64 o] 37)
      have HG1 := hid (HG.out.trans G1)
      have HB1 := hid (Blk.new wr 37 #[.int .u8 ((k : Nat) : Int), .string s, .int .i64 o])
      go_upto_region 4 with fail
      generalize wr.alloc (.cells #[.int .u8 ((k : Nat) : Int), .string s, .int .i64 o] 37) = w1 at *
      generalize wr.heap.size = g at *
      have p0 := HB1.out.cell 0
      have p1 := HB1.out.cell 1
      have p2 := HB1.out.cell 2
      have pl := HB1.out.lt
      simp only [List.getElem?_toArray, List.getElem?_cons_zero, List.getElem?_cons_succ] at p0 p1 p2
      clear q0 q1 q2 hb G1
      go_wp2_with fail
      refine (HM.out _).mono ?_
      rintro e w2 ⟨rfl, hg2⟩
      have HG2 := hid (HG1.out.trans hg2)
      clear hg2 p0 p1 p2 pl
      cases b
      · have HF := hid (HX.out rfl)
        go_wp2_with fail
        go_ret2
        exact ⟨HG2.out, .inl ⟨HF.out, rfl⟩⟩
      · go_wp2_with fail
        go_round
        case rel => exact ⟨i + 1, by go_num, by omega, hid HT.out, HG2⟩
        case measure => simp [intOf]; omega
    · have hin : n = i := by omega
      subst hin
      have HAll : Hid (mayAll l = true) := hid (by
        have := HI.out
        rwa [EN.out, List.take_length] at this)
      have HBld := hid (Bld.new wr (B := w.heap.size) HG.out.below.size)
      have HG2 := hid (HG.out.alloc (.cells #[.pointer none, .slice none 0 0] 61))
      clear HI
      go_upto_region 8 with fail
      generalize wr.alloc (.cells #[.pointer none, .slice none 0 0] 61) = wb at *
      generalize wr.heap.size = gb at *
      go_wp2_with fail
      go_loopw [22] (fun s22 wr => ∃ i : Nat, s22 = .int .i64 ((i : Nat) : Int) ∧ i ≤ n ∧ Hid ((Lx.text (l.take i)).length ≤ 65536) ∧ Hid (Grew w wr) ∧ Hid (Bld wr w.heap.size gb (Lx.text (l.take i)))) (fun s22 _ => n - (intOf s22).toNat)
      case atStart => exact ⟨0, rfl, Nat.zero_le _, hid (by simp [Lx.text]), HG2, HBld⟩
      case round =>
        obtain ⟨i, rfl, hi, HSz, HG, HD⟩ := hrel
        by_cases hlt : i < n
        · have f1 : (i : Int) < n := by omega
          obtain ⟨ad, x, rfl, hx, q0, q1, q2, hb, hk, _⟩ := word_at HA.out HG.out (i := i) (by rw [← EN.out]; exact hlt)
          have hmem : x ∈ l := List.mem_of_getElem? hx
          have hmt := may_text (may_mem HAll.out hmem)
          have HTx := hid (text_next hx)
          have hsl := src_len hmt
          have HSrc := hid (fun W (hg : Grew w W) => source_c x.k x.s x.o hmt W (HE.out.grew hg))
          have HYb : Hid (bs (ofL (Lx.src x.k (bs x.s))) = Lx.srcW x) := hid rfl
          have hys : (ofL (Lx.src x.k (bs x.s))).size ≤ 2050 := by rw [ofL_len]; exact hsl
          clear hx hmem hmt hsl
          generalize ofL (Lx.src x.k (bs x.s)) = y at *
          generalize Lx.srcW x = sw at *
          obtain ⟨k, s, o⟩ := x
          simp only at q0 q1 q2 HSrc
          have G1 := (Grew.refl wr).alloc (.cells #[.int .u8 ((k : Nat) : Int), .string s, .int .i64 o] 37)
          have HG1 := hid (HG.out.trans G1)
          have HD1 := hid (HD.out.grew G1)
          have HB1 := hid (Blk.new wr 37 #[.int .u8 ((k : Nat) : Int), .string s, .int .i64 o])
          have HNe : Hid (wr.heap.size ≠ gb) := hid (by have := HD.out.lt; omega)
          go_upto_region 11 with fail
          generalize wr.alloc (.cells #[.int .u8 ((k : Nat) : Int), .string s, .int .i64 o] 37) = w1 at *
          generalize wr.heap.size = g at *
          clear q0 q1 q2 hb G1
          by_cases h0 : i = 0
          · subst h0
            have HT0 : Hid (Lx.text (l.take 1) = sw) := hid (by have := HTx.out; rwa [if_pos rfl] at this)
            clear HTx
            have p0 := HB1.out.cell 0
            have p1 := HB1.out.cell 1
            have p2 := HB1.out.cell 2
            have pl := HB1.out.lt
            simp only [List.getElem?_toArray, List.getElem?_cons_zero, List.getElem?_cons_succ] at p0 p1 p2
            have HL1 : Hid ((Lx.text (l.take 0)).length ≤ 1000000) := hid (by have := HSz.out; omega)
            have HZ : Hid (Lx.text (l.take 0) = []) := hid (by simp [Lx.text])
            go_wp2_with fail
            refine (HSrc.out _ HG1.out).mono ?_
            rintro e w4 ⟨rfl, hg4⟩
            have HG4 := hid (HG1.out.trans hg4)
            have HD4 := hid (HD1.out.grew hg4)
            clear hg4 p0 p1 p2 pl
            go_wp2_with fail
            refine (bWriteString_c w.heap.size gb _ y w4 HD4.out HL1.out (by omega) HG4.out.below.size).mono ?_
            rintro e w5 ⟨rfl, hd5, hb5⟩
            have HG5 := hid (HG4.out.below_next hb5 (Nat.le_refl _))
            rw [HYb.out] at hd5
            have HD5 : Hid (Bld w5 w.heap.size gb (Lx.text (l.take 1))) := hid (by
              rw [HT0.out]
              rw [HZ.out, List.nil_append] at hd5
              exact hd5)
            clear hd5 hb5
            go_wp2_with fail
            refine (bLen_c w.heap.size gb _ w5 HD5.out).mono ?_
            rintro e w6 ⟨rfl, rfl⟩
            by_cases hbig : 65536 < (Lx.text (l.take 1)).length
            · have hbig2 : (65536 : Int) < (((Lx.text (l.take 1)).length : Nat) : Int) := by omega
              have HBig : Hid (65536 < (Lx.text l).length) := hid (Nat.lt_of_lt_of_le hbig (Lx.text_take_le l 1))
              go_wp2_with fail
              go_ret2
              exact ⟨HG5.out, .inr (.inl ⟨HAll.out, HBig.out, rfl⟩)⟩
            · have hbig2 : ¬ (65536 : Int) < (((Lx.text (l.take 1)).length : Nat) : Int) := by omega
              have HSm : Hid ((Lx.text (l.take 1)).length ≤ 65536) := hid (by omega)
              go_wp2_with fail
              go_round
              case rel => exact ⟨1, by first | rfl | go_num, by omega, HSm, HG5, HD5⟩
              case measure => simp [intOf]; omega
          · have f2 : (0 : Int) < ((i : Nat) : Int) := by omega
            have HT0 : Hid (Lx.text (l.take (i + 1)) = Lx.text (l.take i) ++ 32 :: sw) := hid (by have := HTx.out; rwa [if_neg h0] at this)
            clear HTx h0
            have HL1 : Hid ((Lx.text (l.take i)).length ≤ 1000000) := hid (by have := HSz.out; omega)
            go_wp2_with fail
            refine (bWriteByte_k w.heap.size gb _ 32 w1 HD1.out HL1.out HG1.out.below.size).mono ?_
            rintro e w3 ⟨rfl, ⟨hd3, hb3⟩, ho3⟩
            have HG3 := hid (HG1.out.below_next hb3 (Nat.le_refl _))
            have HD3 := hid hd3
            have HB3 := hid (HB1.out.others ho3 HNe.out (by decide))
            have HL3 : Hid ((Lx.text (l.take i) ++ [32]).length ≤ 1000000) := hid (by rw [List.length_append, List.length_singleton]; have := HSz.out; omega)
            clear hd3 hb3 ho3
            have p0 := HB3.out.cell 0
            have p1 := HB3.out.cell 1
            have p2 := HB3.out.cell 2
            have pl := HB3.out.lt
            simp only [List.getElem?_toArray, List.getElem?_cons_zero, List.getElem?_cons_succ] at p0 p1 p2
            go_wp2_with fail
            refine (HSrc.out _ HG3.out).mono ?_
            rintro e w4 ⟨rfl, hg4⟩
            have HG4 := hid (HG3.out.trans hg4)
            have HD4 := hid (HD3.out.grew hg4)
            clear hg4 p0 p1 p2 pl
            go_wp2_with fail
            refine (bWriteString_c w.heap.size gb _ y w4 HD4.out HL3.out (by omega) HG4.out.below.size).mono ?_
            rintro e w5 ⟨rfl, hd5, hb5⟩
            have HG5 := hid (HG4.out.below_next hb5 (Nat.le_refl _))
            rw [HYb.out] at hd5
            have HD5 : Hid (Bld w5 w.heap.size gb (Lx.text (l.take (i + 1)))) := hid (by
              rw [HT0.out]
              rw [List.append_assoc] at hd5
              exact hd5)
            clear hd5 hb5
            go_wp2_with fail
            refine (bLen_c w.heap.size gb _ w5 HD5.out).mono ?_
            rintro e w6 ⟨rfl, rfl⟩
            by_cases hbig : 65536 < (Lx.text (l.take (i + 1))).length
            · have hbig2 : (65536 : Int) < (((Lx.text (l.take (i + 1))).length : Nat) : Int) := by omega
              have HBig : Hid (65536 < (Lx.text l).length) := hid (Nat.lt_of_lt_of_le hbig (Lx.text_take_le l (i + 1)))
              go_wp2_with fail
              go_ret2
              exact ⟨HG5.out, .inr (.inl ⟨HAll.out, HBig.out, rfl⟩)⟩
            · have hbig2 : ¬ (65536 : Int) < (((Lx.text (l.take (i + 1))).length : Nat) : Int) := by omega
              have HSm : Hid ((Lx.text (l.take (i + 1))).length ≤ 65536) := hid (by omega)
              go_wp2_with fail
              go_round
              case rel => exact ⟨i + 1, by go_num, by omega, HSm, HG5, HD5⟩
              case measure => simp [intOf]; omega
        · have hin : n = i := by omega
          subst hin
          have HTk : Hid (l.take n = l) := hid (by rw [EN.out, List.take_length])
          have HSz2 : Hid ((Lx.text l).length ≤ 65536) := hid (by have := HSz.out; rwa [HTk.out] at this)
          have HD2 : Hid (Bld wr w.heap.size gb (Lx.text l)) := hid (by have := HD.out; rwa [HTk.out] at this)
          clear HTk
          go_wp2_with fail
          refine (bString_c w.heap.size gb _ _ HD2.out HG.out.below.size).mono ?_
          rintro e w3 ⟨rfl, _, hb3⟩
          have HG3 := hid (HG.out.below_next hb3 (Nat.le_refl _))
          clear hb3
          go_wp2_with fail
          go_ret2
          exact ⟨HG3.out, .inr (.inr ⟨HAll.out, HSz2.out, rfl⟩)⟩
end Go.Proofs.YtdfahmppbfjbhaaDoor

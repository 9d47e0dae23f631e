/- Stage 9: law 09's sure. -/
import Derived.Test.YtjdgcgpidhljpaaGreatDoorMg39
import Derived.Test.YtjdgcgpidhljpaaGreatDoorMtL
import Derived.Test.YtjdgcgpidhljpaaGreatDoorMtK
import Derived.Test.YtjdgcgpidhljpaaGreatDoorYNum
namespace Go.Proofs.YtjdgcgpidhljpaaGreatDoor
open Go.RowKit

def fooB : ByteArray := ⟨#[102, 111, 111, 58]⟩
def fiveB : ByteArray := ⟨#[53]⟩
def suM : Mt.Meth := ⟨fooB, [⟨0, fiveB⟩], [⟨-1, 1, 1, [4, 0, 17]⟩]⟩
theorem five_ok : Mt.Numeral fiveB := ⟨false, [5], ⟨fun h => absurd h (by decide), fun _ => Lg.Out.of_rep (by constructor <;> first | (unfold Dg.Low; decide) | (unfold Dg.Top; decide) | decide) (by decide)⟩⟩
theorem su_fits : Mt.fitsAll suM = true := by decide +kernel
theorem su_well : Fl.Well [4, 0, 17] [⟨4, 0, 0⟩, ⟨17, 0, 0⟩] [0, 2] [[1], []] [0, 1] := ⟨by decide +kernel, by decide +kernel, by decide +kernel⟩
theorem su_may : Mt.May suM 0 11 := by
  refine ⟨by decide +kernel, by decide, ?_, ⟨by decide, by decide, ?_⟩, by decide +kernel, ?_⟩
  · intro x hx
    rw [show suM.lits = [⟨0, fiveB⟩] from rfl, List.mem_singleton] at hx
    subst hx
    exact .inl ⟨rfl, five_ok⟩
  · intro i p hp
    match i, hp with
    | 0, hp => cases hp; decide
    | i + 1, hp => cases hp
  · intro i p hp
    match i, hp with
    | 0, hp => cases hp; exact ⟨_, _, _, _, su_well, by decide +kernel⟩
    | i + 1, hp => cases hp
theorem zero_not : ¬ Mt.May ⟨⟨#[]⟩, [], []⟩ 0 11 := fun h => by
  have := h.sel
  revert this
  decide +kernel
theorem ar_put : Mt.arity (Lg.bytes ⟨#[97, 116, 58, 112, 117, 116, 58]⟩) = some 2 := by decide +kernel
theorem ar_le : Mt.arity (Lg.bytes ⟨#[60, 61]⟩) = some 1 := by decide +kernel
theorem ar_Foo : Mt.arity (Lg.bytes ⟨#[70, 111, 111]⟩) = none := by decide +kernel
theorem dec_nil : Mt.decode [] = none := by decide +kernel
def suV (h0 h1 h2 : Nat) : MV := ⟨fooB, [⟨0, fiveB⟩], some ⟨h0, 0, none⟩, 1, [⟨⟨-1, 1, 1, [4, 0, 17]⟩, some ⟨h1, 0, none⟩, 3⟩], some ⟨h2, 0, none⟩, 1⟩
def zeroV : MV := ⟨⟨#[]⟩, [], none, 0, [], none, 0⟩
theorem zero_at (w : World) : MethAt w zeroV := ⟨by decide, ⟨(by intro x hx; cases hx), (by intro h; exact absurd h (by decide))⟩, by decide, ⟨(by intro x hx; cases hx), (by intro h; exact absurd h (by decide))⟩, by decide⟩
theorem su_at {w : World} {h0 h1 h2 : Nat} (b0 : Blk w h0 62 #[.int .u8 0, .string fiveB]) (b1 : Blk w h1 5 #[.int .u8 4, .int .u8 0, .int .u8 17]) (b2 : Blk w h2 63 #[.int .i64 (-1), .int .i64 1, .int .i64 1, .slice (some ⟨h1, 0, none⟩) 3 3]) : MethAt w (suV h0 h1 h2) := by
  have ad0 : ∀ (h j : Nat), (⟨h, 0, none⟩ : Addr).add j = ⟨h, j, none⟩ := fun h j => by unfold Addr.add; split <;> simp_all
  refine ⟨(show fooB.size ≤ 2000 by decide), ⟨?_, fun _ => ⟨_, rfl, b0.lt, ?_⟩⟩, (show 1 ≤ 100 by decide), ⟨?_, fun _ => ⟨_, rfl, b2.lt, ?_⟩⟩, (show 1 ≤ 100 by decide)⟩
  · intro x hx
    rw [show (suV h0 h1 h2).lits = [⟨0, fiveB⟩] from rfl, List.mem_singleton] at hx
    subst hx
    decide
  · intro i x hx j u hu
    match i, hx with
    | 0, hx =>
      cases hx
      rw [ad0, b0.cell, Nat.zero_mul, Nat.zero_add]
      exact hu
    | i + 1, hx => cases hx
  · intro v hv
    rw [show (suV h0 h1 h2).vs = [⟨⟨-1, 1, 1, [4, 0, 17]⟩, some ⟨h1, 0, none⟩, 3⟩] from rfl, List.mem_singleton] at hv
    subst hv
    refine ⟨⟨(show ∀ x ∈ [4, 0, 17], x < 256 by decide), fun _ => ⟨_, rfl, b1.lt, fun j hj => ?_⟩⟩, (show 3 ≤ 3 by decide), (show 3 ≤ 9223372036854775807 by decide), (show 3 ≤ 1000 by decide)⟩
    rw [ad0, b1.cell]
    match j, hj with
    | 0, _ => rfl
    | 1, _ => rfl
    | 2, _ => rfl
    | j + 3, hj => exact absurd hj (by simp)
  · intro i v hv j u hu
    match i, hv with
    | 0, hv =>
      cases hv
      rw [ad0, b2.cell, Nat.zero_mul, Nat.zero_add]
      exact hu
    | i + 1, hv => cases hv
set_option maxRecDepth 100000 in
set_option maxHeartbeats 4000000 in
theorem sure9_c (w : World) (hh : HandleAt w) (hE : Env w) : Calls Tryz.prog 8 #[] w fun e w' => e = .returned (.bool true) ∧ Grew w w' := by
  obtain ⟨W, hW⟩ : ∃ W, W = (((w.alloc (.cells #[.int .u8 0, .string fiveB] 62)).alloc (.cells #[.int .u8 4, .int .u8 0, .int .u8 17] 5)).alloc (.cells #[.int .i64 (-1), .int .i64 1, .int .i64 1, .slice (some ⟨w.heap.size + 1, 0, none⟩) 3 3] 63)).alloc (.cells #[.string fooB, .slice (some ⟨w.heap.size, 0, none⟩) 1 1, .slice (some ⟨w.heap.size + 1 + 1, 0, none⟩) 1 1] 37) := ⟨_, rfl⟩
  have hg : Grew w W := by rw [hW]; exact ((((Grew.refl w).alloc _).alloc _).alloc _).alloc _
  have b0 : Blk W w.heap.size 62 #[.int .u8 0, .string fiveB] := by
    rw [hW]; exact (Blk.new w _ _).grew ((((Grew.refl _).alloc _).alloc _).alloc _)
  have b1 : Blk W (w.heap.size + 1) 5 #[.int .u8 4, .int .u8 0, .int .u8 17] := by
    rw [hW]
    have := (Blk.new (w.alloc (.cells #[.int .u8 0, .string fiveB] 62)) 5 #[.int .u8 4, .int .u8 0, .int .u8 17])
    rw [World.size_alloc] at this
    exact this.grew (((Grew.refl _).alloc _).alloc _)
  have b2 : Blk W (w.heap.size + 1 + 1) 63 #[.int .i64 (-1), .int .i64 1, .int .i64 1, .slice (some ⟨w.heap.size + 1, 0, none⟩) 3 3] := by
    rw [hW]
    have := (Blk.new ((w.alloc (.cells #[.int .u8 0, .string fiveB] 62)).alloc (.cells #[.int .u8 4, .int .u8 0, .int .u8 17] 5)) 63 #[.int .i64 (-1), .int .i64 1, .int .i64 1, .slice (some ⟨w.heap.size + 1, 0, none⟩) 3 3])
    rw [World.size_alloc, World.size_alloc] at this
    exact this.grew ((Grew.refl _).alloc _)
  have b3 : Blk W (w.heap.size + 1 + 1 + 1) 37 (mvCells (suV w.heap.size (w.heap.size + 1) (w.heap.size + 1 + 1))) := by
    rw [hW]
    have := (Blk.new (((w.alloc (.cells #[.int .u8 0, .string fiveB] 62)).alloc (.cells #[.int .u8 4, .int .u8 0, .int .u8 17] 5)).alloc (.cells #[.int .i64 (-1), .int .i64 1, .int .i64 1, .slice (some ⟨w.heap.size + 1, 0, none⟩) 3 3] 63)) 37 (mvCells (suV w.heap.size (w.heap.size + 1) (w.heap.size + 1 + 1))))
    rw [World.size_alloc, World.size_alloc, World.size_alloc] at this
    exact this
  have HMt := hid (su_at b0 b1 b2)
  have HB3 := hid b3
  have HG := hid hg
  have HE := hid (hE.grew hg)
  have HH := hid (hh.grew hg)
  have hE0 := encode9_c (suV w.heap.size (w.heap.size + 1) (w.heap.size + 1 + 1)) W HMt.out
  rw [show (suV w.heap.size (w.heap.size + 1) (w.heap.size + 1 + 1)).m = suM from rfl] at hE0
  have HEnc := hid hE0
  clear hE0
  have HChk := hid (fun (w' : World) (hg' : Grew W w') => check9_c (suV w.heap.size (w.heap.size + 1) (w.heap.size + 1 + 1)) 0 11 true ⟨fun _ => su_may, fun _ => rfl⟩ w' (HMt.out.grew hg') (HE.out.grew hg'))
  have HChz := hid (fun (w' : World) (hg' : Grew W w') => check9_c zeroV 0 11 false ⟨(fun h => by cases h), fun h => absurd h zero_not⟩ w' (zero_at w') (HE.out.grew hg'))
  have HA1 := hid (fun (w' : World) (hg' : Grew W w') => arity_c ⟨#[97, 116, 58, 112, 117, 116, 58]⟩ w' (HE.out.grew hg').mx)
  have HA2 := hid (fun (w' : World) (hg' : Grew W w') => arity_c ⟨#[60, 61]⟩ w' (HE.out.grew hg').mx)
  have HA3 := hid (fun (w' : World) (hg' : Grew W w') => arity_c ⟨#[70, 111, 111]⟩ w' (HE.out.grew hg').mx)
  rw [ar_put] at HA1
  rw [ar_le] at HA2
  rw [ar_Foo] at HA3
  have HN2 := hid (fun (w' : World) (hg' : Grew W w') => num_c 2 w' (HH.out.grew hg'))
  have HN8 := hid (fun (w' : World) (hg' : Grew W w') => num_c 8 w' (HH.out.grew hg'))
  have HDn := hid (fun (w' : World) => decode9_c none 0 [] w' (BytesAt.nil _ _ _) (by decide))
  clear hh hE hg b0 b1 b2 b3
  unfold mvCells suV at HEnc HChk
  simp only [List.length_cons, List.length_nil] at HEnc HChk
  unfold mvCells zeroV at HChz
  simp only [List.length_nil] at HChz
  unfold fooB at HEnc HChk hW
  unfold fiveB at hW
  subst hW
  go_enter Tryz.func8, Tryz.ntmps8
  go_wp2_with fail
  generalize (((w.alloc (.cells #[.int .u8 0, .string ⟨#[53]⟩] 62)).alloc (.cells #[.int .u8 4, .int .u8 0, .int .u8 17] 5)).alloc (.cells #[.int .i64 (-1), .int .i64 1, .int .i64 1, .slice (some ⟨w.heap.size + 1, 0, none⟩) 3 3] 63)).alloc (.cells #[.string ⟨#[102, 111, 111, 58]⟩, .slice (some ⟨w.heap.size, 0, none⟩) 1 1, .slice (some ⟨w.heap.size + 1 + 1, 0, none⟩) 1 1] 37) = W at *
  generalize w.heap.size = h0 at *
  refine HEnc.out.mono ?_
  rintro e w1 ⟨A, c, bs, k, rfl, hby, hc1, hc2, hg1, hcase⟩
  have hcs : bs = Mt.enc suM ∧ k = 0 := by
    rcases hcase with ⟨_, h2, h3⟩ | ⟨h1, _⟩
    · exact ⟨h2, h3⟩
    · rw [su_fits] at h1; cases h1
  obtain ⟨hbs, rfl⟩ := hcs
  have hlen : bs.length ≤ 140737488355328 := by rw [hbs]; decide +kernel
  have HDc := hid (decode9_c A c bs w1 hby hlen)
  have HDe := hid (show Mt.decode bs = some suM by rw [hbs]; exact Mt.decode_enc su_fits)
  have HG1 := hid hg1
  rw [show errVal 0 = .nilIface from rfl]
  clear hby hc1 hc2 hg1 hcase hbs hlen HEnc
  generalize bs.length = bl at *
  go_wp2_with fail
  refine HDc.out.mono ?_
  rintro e w2 (⟨hd, _⟩ | ⟨v, hd, rfl, hv, hg2⟩)
  · rw [HDe.out] at hd; cases hd
  have HVm : Hid (suM = v.m) := hid (by rw [HDe.out] at hd; exact Option.some.inj hd)
  have HBn := hid (Blk.new w2 37 (mvCells v))
  have HG3 := hid ((HG1.out.trans hg2).alloc (.cells (mvCells v) 37))
  have HV := hid (hv.grew ((Grew.refl w2).alloc (.cells (mvCells v) 37)))
  unfold mvCells at *
  clear hd hv hg2 HDc
  go_wp2_with fail
  generalize w2.alloc (.cells #[.string v.sel, .slice v.A1 v.lits.length v.c1, .slice v.A2 v.vs.length v.c2] 37) = w3 at *
  generalize w2.heap.size = hn at *
  refine (HA1.out _ HG3.out).mono ?_
  rintro e w4 ⟨rfl, hg4⟩
  have HG4 := hid (HG3.out.trans hg4)
  have HH4 := hid hg4
  clear hg4 HA1
  go_wp2_with fail
  refine (HA2.out _ HG4.out).mono ?_
  rintro e w5 ⟨rfl, hg5⟩
  have HG5 := hid (HG4.out.trans hg5)
  have HH5 := hid (HH4.out.trans hg5)
  clear hg5 HA2
  go_wp2_with fail
  refine (HA3.out _ HG5.out).mono ?_
  rintro e w6 ⟨rfl, hg6⟩
  have HG6 := hid (HG5.out.trans hg6)
  have HH6 := hid (HH5.out.trans hg6)
  clear hg6 HA3
  go_wp2_with fail
  refine (HDn.out w6).mono ?_
  intro e w7 hp
  have hp2 : e = .returned (.tuple #[.agg #[.string ⟨#[]⟩, .slice none 0 0, .slice none 0 0], .iface 66 (.int .i64 2)]) ∧ Grew w6 w7 := by
    rcases hp with ⟨_, h1, h2⟩ | ⟨v2, hd, _⟩
    · exact ⟨h1, h2⟩
    · rw [dec_nil] at hd; cases hd
  clear hp
  obtain ⟨rfl, hg7⟩ := hp2
  have HG7 := hid ((HG6.out.trans hg7).alloc (.cells #[.string ⟨#[]⟩, .slice none 0 0, .slice none 0 0] 37))
  have HH7 := hid ((HH6.out.trans hg7).alloc (.cells #[.string ⟨#[]⟩, .slice none 0 0, .slice none 0 0] 37))
  have m0 := (HB3.out.grew HG7.out).cell 0
  have m1 := (HB3.out.grew HG7.out).cell 1
  have m2 := (HB3.out.grew HG7.out).cell 2
  have n0 := (HBn.out.grew HH7.out).cell 0
  have n1 := (HBn.out.grew HH7.out).cell 1
  have n2 := (HBn.out.grew HH7.out).cell 2
  unfold suV fooB at m0 m1 m2
  simp only [List.getElem?_toArray, List.getElem?_cons_zero, List.getElem?_cons_succ, List.length_cons, List.length_nil] at m0 m1 m2 n0 n1 n2
  have HSa := hid (same9_c (suV h0 (h0 + 1) (h0 + 1 + 1)) v _ (HMt.out.grew HG7.out) (HV.out.grew HH7.out))
  rw [show (suV h0 (h0 + 1) (h0 + 1 + 1)).m = suM from rfl, decide_eq_true HVm.out] at HSa
  unfold mvCells suV fooB at HSa
  simp only [List.length_cons, List.length_nil] at HSa
  clear hg7 HDn
  go_wp2_with fail
  clear m0 m1 m2 n0 n1 n2
  refine HSa.out.mono ?_
  rintro e w8 ⟨rfl, hg8⟩
  have HG8 := hid (HG7.out.trans hg8)
  clear hg8 HSa
  go_wp2_with fail
  refine (HN2.out _ HG8.out).mono ?_
  rintro e w9 ⟨rfl, hg9⟩
  have HG9 := hid (HG8.out.trans hg9)
  have m0 := (HB3.out.grew HG9.out).cell 0
  have m1 := (HB3.out.grew HG9.out).cell 1
  have m2 := (HB3.out.grew HG9.out).cell 2
  unfold suV fooB at m0 m1 m2
  simp only [List.getElem?_toArray, List.getElem?_cons_zero, List.getElem?_cons_succ, List.length_cons, List.length_nil] at m0 m1 m2
  clear hg9 HN2
  go_wp2_with fail
  clear m0 m1 m2
  refine (HChk.out _ HG9.out).mono ?_
  rintro e w10 ⟨rfl, hg10⟩
  have HG10 := hid (HG9.out.trans hg10)
  rw [show ckVal true = .nilIface from rfl]
  clear hg10 HChk
  go_wp2_with fail
  refine (HChz.out _ HG10.out).mono ?_
  rintro e w11 ⟨rfl, hg11⟩
  have HG11 := hid (HG10.out.trans hg11)
  rw [show ckVal false = errVal 8 from rfl]
  clear hg11 HChz
  go_wp2_with fail
  refine (HN8.out _ HG11.out).mono ?_
  rintro e w12 ⟨rfl, hg12⟩
  have HG12 := hid (HG11.out.trans hg12)
  clear hg12 HN8
  go_wp2_with fail
  go_ret
  exact ⟨rfl, HG.out.trans HG12.out⟩
end Go.Proofs.YtjdgcgpidhljpaaGreatDoor

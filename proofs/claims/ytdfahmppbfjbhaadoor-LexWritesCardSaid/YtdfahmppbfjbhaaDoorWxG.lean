/- Stage 13: the program's own nameOrKey, argOrMark, quoted, token. -/
import Derived.Test.YtdfahmppbfjbhaaDoorWxF
namespace Go.Proofs.YtdfahmppbfjbhaaDoor
open Go.RowKit

/-- How the tokens without a text are written, in memory. -/
def MarksAt (w : World) : Prop := ∀ k, k < 17 → w.cell? ⟨1, k, none⟩ = some (.string (ofL (Lx.mark k)))
theorem MarksAt.lt {w : World} (h : MarksAt w) : 1 < w.heap.size := World.block_lt_of_cell? w _ (h 0 (by decide))
theorem MarksAt.grew {w w' : World} (h : MarksAt w) (hg : Grew w w') : MarksAt w' := fun k hk => (hg.below.cell h.lt).trans (h k hk)
structure EnvAt (w : World) : Prop where
  m : MarksAt w
  x : MaxAt w
theorem EnvAt.grew {w w' : World} (h : EnvAt w) (hg : Grew w w') : EnvAt w' := ⟨h.m.grew hg, h.x.grew hg⟩
/-- A token and its size, as a call returns them. -/
def tokV (x : Nat × List UInt8 × Nat) : Value := .tuple #[.agg #[.int .u8 ((x.1 : Nat) : Int), .string (ofL x.2.1), .int .i64 0], .int .i64 ((x.2.2 : Nat) : Int)]
def nkTok (l : List UInt8) : Nat × List UInt8 × Nat := if Lx.keyed (l.drop (Lx.nameOf l).length) then (1, Lx.nameOf l, (Lx.nameOf l).length + 1) else (0, Lx.nameOf l, (Lx.nameOf l).length)
theorem keyed_pre (l : List UInt8) : Lx.keyed l = (([58] : List UInt8).isPrefixOf l && !(([58, 61] : List UInt8).isPrefixOf l)) := by
  unfold Lx.keyed
  cases l with
  | nil => rfl
  | cons a r =>
    cases r with
    | nil =>
      by_cases h : a = 58
      · subst h; rfl
      · have h1 : ((some a : Option UInt8) == some 58) = false := by rw [beq_eq_false_iff_ne]; exact fun e => h (Option.some.inj e)
        have h2 : List.isPrefixOf [58] [a] = false := by
          simp only [List.isPrefixOf, Bool.and_true, beq_eq_false_iff_ne]
          exact fun e => h e.symm
        rw [List.head?_cons, h1, h2]
        rfl
    | cons b q =>
      simp only [List.isPrefixOf, List.head?_cons, List.drop_one, List.tail_cons, Bool.and_true]
      rw [Bool.eq_iff_iff]
      simp only [Bool.and_eq_true, Bool.not_eq_true', bne_iff_ne, beq_iff_eq, Option.some.injEq, Bool.and_eq_false_iff, beq_eq_false_iff_ne, ne_eq]
      constructor
      · rintro ⟨rfl, h⟩
        exact ⟨rfl, .inr fun e => h e.symm⟩
      · rintro ⟨rfl, h | h⟩
        · exact absurd rfl h
        · exact ⟨rfl, fun e => h e.symm⟩
theorem Blk.put3 {w : World} {g : Nat} {t : TypeId} {a0 a1 a2 : Value} (h : Blk w g t #[a0, a1, a2]) (c0 c1 c2 : Value) :
    Blk (((w.setCell ⟨g, 0, none⟩ c0).setCell ⟨g, 1, none⟩ c1).setCell ⟨g, 2, none⟩ c2) g t #[c0, c1, c2] := by
  have := ((h.put 0 c0).put 1 c1).put 2 c2
  simpa using this
theorem kept3 {F : Nat → Prop} {w w2 : World} {g : Nat} (h : Kept F w w2) (hg : g < w.heap.size → F g) (c0 c1 c2 : Value) :
    Kept F w (((w2.setCell ⟨g, 0, none⟩ c0).setCell ⟨g, 1, none⟩ c1).setCell ⟨g, 2, none⟩ c2) :=
  ((h.setCell (p := ⟨g, 0, none⟩) hg c0).setCell (p := ⟨g, 1, none⟩) hg c1).setCell (p := ⟨g, 2, none⟩) hg c2
/-- A token stored into a box. -/
theorem wpList_storeW {ops : Array Oper} {rest : List Oper} {o : Oper} {a : Act} {Q : Exit → Act → World → Prop} (w : World) (hgd : o.guard = none) (s x : Operand) (ho : o.op = .store 37 s x) (hd : o.dst = none) {g : Nat} {t : TypeId} {a0 a1 a2 : Value} {k n : Int} {s0 : ByteArray}
    (hs : a.eval s = .pointer (some ⟨g, 0, none⟩)) (hx : a.eval x = .agg #[.int .u8 k, .string s0, .int .i64 n]) (hb : Blk w g t #[a0, a1, a2])
    (h : ∀ w', Blk w' g t #[.int .u8 k, .string s0, .int .i64 n] → Kept (· = g) w w' → wpList Tryd.prog ops Q rest a w') : wpList Tryd.prog ops Q (o :: rest) a w := by
  refine wpList_plain hgd fun K hK => ?_
  have q0 := hb.cell 0
  have q1 := hb.cell 1
  have q2 := hb.cell 2
  have k := hb.frozen
  simp only [List.getElem?_toArray, List.getElem?_cons_zero, List.getElem?_cons_succ] at q0 q1 q2
  have hfin := hK a _ (h _ (hb.put3 _ _ _) (kept3 (Kept.refl (· = g) w) (fun _ => rfl) _ _ _))
  unfold Oper.wp
  clear hK h
  simp only [execOp, ho, hs, hx]
  go_simp
  exact hfin
set_option maxRecDepth 100000 in
/-- Results that are a token and a number. -/
theorem res_tok {fn : Func} {a b : Tmp} (hr : fn.results = #[ResultVar.cell a 37, ResultVar.tmp b]) (tmps : Array Value) (g : Nat) (ha : tmps.getD a undef = .pointer (some ⟨g, 0, none⟩)) (v : Value) (hv : tmps.getD b undef = v) (w : World) (c0 c1 c2 : Value) (hb : Blk w g 37 #[c0, c1, c2]) :
    (results fn tmps).run Tryd.prog w = .ok (.tuple #[.agg #[c0, c1, c2], v]) w := by
  have y0 : w.cell? ⟨g, 0, none⟩ = some c0 := hb.cell 0
  have y1 : w.cell? ⟨g, 1, none⟩ = some c1 := hb.cell 1
  have y2 : w.cell? ⟨g, 2, none⟩ = some c2 := hb.cell 2
  have ha' : tmps[a]?.getD undef = .pointer (some ⟨g, 0, none⟩) := by simpa using ha
  have hv' : tmps[b]?.getD undef = v := by simpa using hv
  clear ha hv
  simp [results, go_sem, *]
set_option maxRecDepth 100000 in
set_option maxHeartbeats 1000000 in
theorem nameOrKey_c (s : ByteArray) (hs : s.size ≤ 4294967280) (w : World) (hm : MarksAt w) : Calls Tryd.prog 39 #[.string s] w fun e w' => e = .returned (tokV (nkTok (bs s))) ∧ Grew w w' := by
  have HN := hid (fun W => name_c s hs W)
  have HM := hid (fun W (hg : Grew w W) => (hm.grew hg) 6 (by decide))
  rw [show Lx.mark 6 = [58, 61] from rfl] at HM
  unfold nkTok tokV
  have hle := Lx.nameOf_le (bs s)
  rw [bs_len] at hle
  have HZ : Hid ((ofL (Lx.nameOf (bs s))).size = (Lx.nameOf (bs s)).length) := hid (ofL_len _)
  have HX := hid (ext_drop s (Lx.nameOf (bs s)).length)
  have HA := hid (fun W => hasPrefix_c (ofL ((bs s).drop (Lx.nameOf (bs s)).length)) ⟨#[58]⟩ W)
  have HB := hid (fun W => hasPrefix_c (ofL ((bs s).drop (Lx.nameOf (bs s)).length)) (ofL [58, 61]) W)
  rw [bs_ofL] at HA HB
  rw [bs_ofL] at HB
  rw [keyed_pre, show ([58] : List UInt8) = bs ⟨#[58]⟩ from rfl]
  have HG := hid ((Grew.refl w).alloc (.cells #[.int .u8 0, .string ⟨#[]⟩, .int .i64 0] 37))
  have HBk := hid (Blk.new w 37 #[.int .u8 0, .string ⟨#[]⟩, .int .i64 0])
  generalize (bs ⟨#[58]⟩).isPrefixOf ((bs s).drop (Lx.nameOf (bs s)).length) = a at *
  generalize ([58, 61] : List UInt8).isPrefixOf ((bs s).drop (Lx.nameOf (bs s)).length) = b at *
  generalize ofL ((bs s).drop (Lx.nameOf (bs s)).length) = y at *
  generalize (Lx.nameOf (bs s)).length = n at *
  obtain ⟨x, hx⟩ : ∃ x, x = ofL (Lx.nameOf (bs s)) := ⟨_, rfl⟩
  rw [← hx] at HN HZ
  have HXN := hid hx
  clear hx
  have hxz : x.size ≤ 4294967280 := by rw [HZ.out]; omega
  have hzn : x.size = n := HZ.out
  subst hzn
  generalize hal : w.alloc (.cells #[.int .u8 0, .string ⟨#[]⟩, .int .i64 0] 37) = wa at *
  generalize hgs : w.heap.size = g at *
  have hgB : Hid (w.heap.size ≤ g) := hid (Nat.le_of_eq hgs)
  cases a
  · go_enter Tryd.func39, Tryd.ntmps39
    go_upto_region 1 with fail
    clear hal hgs
    go_wp2_with fail
    refine (HN.out _).mono ?_
    rintro e w1 ⟨rfl, hg1⟩
    have HG1 := hid (HG.out.trans hg1)
    have HB1 := hid (HBk.out.grew hg1)
    clear hg1
    have hix := HX.out
    go_wp2_with fail
    refine (HA.out _).mono ?_
    rintro e w2 ⟨rfl, rfl⟩
    have q0 := HB1.out.cell 0
    have q1 := HB1.out.cell 1
    have q2 := HB1.out.cell 2
    have f0 := HB1.out.frozen
    have ql := HB1.out.lt
    simp only [List.getElem?_toArray, List.getElem?_cons_zero, List.getElem?_cons_succ] at q0 q1 q2
    go_wp2_with fail
    refine bodyPost_ret (res_tok Tryd.results39 _ g rfl _ rfl _ _ _ _ (HB1.out.put3 _ _ _)) rfl ⟨by rw [HXN.out]; rfl, (kept3 (F := (· = g)) (Kept.refl _ _) (fun _ => rfl) _ _ _).grew HG1.out (fun k hk => by rw [hk]; exact hgB.out)⟩
  · cases b
    · go_enter Tryd.func39, Tryd.ntmps39
      go_upto_region 1 with fail
      clear hal hgs
      go_wp2_with fail
      refine (HN.out _).mono ?_
      rintro e w1 ⟨rfl, hg1⟩
      have HG1 := hid (HG.out.trans hg1)
      have HB1 := hid (HBk.out.grew hg1)
      clear hg1
      have hix := HX.out
      have hmk := HM.out _ HG1.out
      go_wp2_with fail
      refine (HA.out _).mono ?_
      rintro e w2 ⟨rfl, rfl⟩
      go_wp2_with fail
      refine (HB.out _).mono ?_
      rintro e w2 ⟨rfl, rfl⟩
      have q0 := HB1.out.cell 0
      have q1 := HB1.out.cell 1
      have q2 := HB1.out.cell 2
      have f0 := HB1.out.frozen
      have ql := HB1.out.lt
      simp only [List.getElem?_toArray, List.getElem?_cons_zero, List.getElem?_cons_succ] at q0 q1 q2
      clear hmk
      go_wp2_with fail
      refine bodyPost_ret (res_tok Tryd.results39 _ g rfl _ rfl _ _ _ _ (HB1.out.put3 _ _ _)) rfl ⟨by rw [HXN.out]; rfl, (kept3 (F := (· = g)) (Kept.refl _ _) (fun _ => rfl) _ _ _).grew HG1.out (fun k hk => by rw [hk]; exact hgB.out)⟩
    · go_enter Tryd.func39, Tryd.ntmps39
      go_upto_region 1 with fail
      clear hal hgs
      go_wp2_with fail
      refine (HN.out _).mono ?_
      rintro e w1 ⟨rfl, hg1⟩
      have HG1 := hid (HG.out.trans hg1)
      have HB1 := hid (HBk.out.grew hg1)
      clear hg1
      have hix := HX.out
      have hmk := HM.out _ HG1.out
      go_wp2_with fail
      refine (HA.out _).mono ?_
      rintro e w2 ⟨rfl, rfl⟩
      go_wp2_with fail
      refine (HB.out _).mono ?_
      rintro e w2 ⟨rfl, rfl⟩
      have q0 := HB1.out.cell 0
      have q1 := HB1.out.cell 1
      have q2 := HB1.out.cell 2
      have f0 := HB1.out.frozen
      have ql := HB1.out.lt
      simp only [List.getElem?_toArray, List.getElem?_cons_zero, List.getElem?_cons_succ] at q0 q1 q2
      clear hmk
      go_wp2_with fail
      refine bodyPost_ret (res_tok Tryd.results39 _ g rfl _ rfl _ _ _ _ (HB1.out.put3 _ _ _)) rfl ⟨by rw [HXN.out]; rfl, (kept3 (F := (· = g)) (Kept.refl _ _) (fun _ => rfl) _ _ _).grew HG1.out (fun k hk => by rw [hk]; exact hgB.out)⟩
end Go.Proofs.YtdfahmppbfjbhaaDoor

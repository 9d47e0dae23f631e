/- PackFields: for every slice of fields and every slice of bytes the law returns true, and nothing that was there is changed. Conditions: none of ours. -/
import Derived.Test.YtglekjhbpdoofaaDoorPk18
import Derived.Test.YtglekjhbpdoofaaDoorBack06
namespace Go.Proofs.YtglekjhbpdoofaaDoor
open Go.RowKit

/-- What lies in memory while a round's test runs. -/
def Pf20 (W : World) (gx : Nat) (X : List Nat) (lo gy : Nat) (st st' : Pk.St) (Aw : Option Addr) (Hf : Nat) (f : FdV) (b : Bool) (w : World) : Prop :=
  PF W w gx X lo gy (if b then st' else st) Aw X ∧ Blk w Hf 29 f.cells ∧ Hf ≠ gy ∧ FdOk w w.heap.size f ∧ (∀ ad, f.A = some ad → ad.block ≠ gy)
theorem Pf20.grew {W w w' : World} {gx : Nat} {X : List Nat} {lo gy : Nat} {st st' : Pk.St} {Aw : Option Addr} {Hf : Nat} {f : FdV} {b : Bool} (h : Pf20 W gx X lo gy st st' Aw Hf f b w) (hg : Grew w w') : Pf20 W gx X lo gy st st' Aw Hf f b w' :=
  ⟨h.1.grew hg, h.2.1.grew hg, h.2.2.1, (h.2.2.2.1.kept (F := fun _ => False) (.of_grew hg) (Nat.le_refl _) (fun _ _ _ h => h)).wide hg.below.size, h.2.2.2.2⟩
theorem Pf20.read {W w w' : World} {gx : Nat} {X : List Nat} {lo gy : Nat} {st st' : Pk.St} {Aw : Option Addr} {Hf : Nat} {f : FdV} (h : Pf20 W gx X lo gy st st' Aw Hf f false w) (hr : RdAt w' lo gy st') (hk : Kept (· = gy) w w') : Pf20 W gx X lo gy st st' Aw Hf f true w' :=
  ⟨h.1.read hr hk, h.2.1.kept hk h.2.2.1, h.2.2.1, (h.2.2.2.1.kept hk (Nat.le_refl _) (fun ad e _ => h.2.2.2.2 ad e)).wide hk.size, h.2.2.2.2⟩
/-- What each operation of a round's test gives. -/
def Pf20F (vl : Value) (i : Nat) (ad : Addr) (gx gy : Nat) (vv : Value) (tk : Pk.Fd) (fv : Value) (vw : Value) (X : List Nat) (xl tl : Nat) (S : ByteArray) (k : Nat) (v : Value) (w : World) : Prop := match k with
  | 0 => v = .pointer (some ⟨gy, 0, none⟩)
  | 1 => v = vl
  | 2 => v = .int .i64 ((i : Nat) : Int)
  | 3 => v = .pointer (some (ad.add (i * 7)))
  | 4 => v = vv
  | 5 => ∃ A3 c3, v = .agg #[.int .u8 ((tk.kind : Nat) : Int), .int .i64 tk.n, .slice A3 tl c3, .string tk.s, .int .i64 tk.many, .int .i64 tk.lo, .int .i64 tk.hi] ∧ FdOk w w.heap.size ⟨tk, A3, c3⟩ ∧ (∀ ad, A3 = some ad → ad.block ≠ gy)
  | 6 => v = fv
  | 7 => v = .bool true
  | 10 => v = .pointer (some ⟨gx, 0, none⟩)
  | 11 => ∃ A3 c3, v = .slice A3 xl c3 ∧ NumsAt .u8 w w.heap.size A3 X ∧ (∀ ad, A3 = some ad → ad.block ≠ gy)
  | 12 => v = .string S
  | 13 => v = vw
  | 14 => v = .string S
  | _ => v = .bool false
theorem Pf20F.mono {vl : Value} {i : Nat} {ad : Addr} {gx gy : Nat} {vv : Value} {tk : Pk.Fd} {fv vw : Value} {X : List Nat} {xl tl : Nat} {S : ByteArray} (k : Nat) (v : Value) (w w' : World) (h : Pf20F vl i ad gx gy vv tk fv vw X xl tl S k v w) (hk : Kept (· = gy) w w') : Pf20F vl i ad gx gy vv tk fv vw X xl tl S k v w' := by
  unfold Pf20F at *
  split at h
  all_goals
    first
      | exact h
      | (obtain ⟨A3, c3, h1, h2, h3⟩ := h; exact ⟨A3, c3, h1, (h2.kept hk (Nat.le_refl _) (fun ad e _ => h3 ad e)).wide hk.size, h3⟩)
      | (obtain ⟨A3, c3, h1, h2, h3⟩ := h; exact ⟨A3, c3, h1, (h2.kept hk (Nat.le_refl _) (fun ad e => h3 ad e)).wide hk.size, h3⟩)
theorem take_llen (st : Pk.St) (f : Pk.Fd) : (Pk.take st f).1.l.length ≤ (Pk.rest st).length := by
  unfold Pk.take
  split
  · simp
  · split
    · show (Pk.ints st f.many f.lo f.hi).1.length ≤ _
      unfold Pk.ints
      split
      · rename_i n r hc
        have h1 : r.length ≤ (Pk.rest st).length := count_len (by rw [hc])
        have h2 := Pk.count_range hc
        split
        · rename_i l r' hm
          have := (Pk.many_len _ hm).1
          simp only
          omega
        · simp
      · simp
    · simp
theorem take_kind (st : Pk.St) (f : Pk.Fd) : (Pk.take st f).1.kind = f.kind := by
  unfold Pk.take
  split
  · rfl
  · split <;> rfl
theorem sameF_refl (f : Pk.Fd) : sameF f f = true := by simp [sameF]

/-- A field taken by the document, its cells told. -/
theorem rtake_cells {A : Option Addr} {c : Nat} {b : List Nat} {at_ : Int} {st : Pk.St} (f : Pk.Fd) (A1 : Option Addr) (c1 : Nat) {w : World} (hb : BytesAt w w.heap.size A b) (hc : b.length ≤ c) (hm : c ≤ 9223372036854775807) (hbl : b.length ≤ 1000000000) (ha : AtSt b at_ st) (hk : f.kind < 256) :
    Calls Tryd.prog 18 #[.slice A b.length c, .int .i64 at_, .agg #[.int .u8 ((f.kind : Nat) : Int), .int .i64 f.n, .slice A1 f.l.length c1, .string f.s, .int .i64 f.many, .int .i64 f.lo, .int .i64 f.hi]] w fun e w' => ∃ A' c' a', e = .returned (.tuple #[.agg #[.int .u8 (((Pk.take st f).1.kind : Nat) : Int), .int .i64 (Pk.take st f).1.n, .slice A' (Pk.take st f).1.l.length c', .string (Pk.take st f).1.s, .int .i64 (Pk.take st f).1.many, .int .i64 (Pk.take st f).1.lo, .int .i64 (Pk.take st f).1.hi], .int .i64 a']) ∧ FdOk w' w'.heap.size ⟨(Pk.take st f).1, A', c'⟩ ∧ (∀ ad, A' = some ad → w.heap.size ≤ ad.block) ∧ AtSt b a' (Pk.take st f).2 ∧ Grew w w' :=
  (rtake_c A c b at_ st ⟨f, A1, c1⟩ w hb hc hm hbl ha hk).mono fun _ _ ⟨A', c', a', h⟩ => ⟨A', c', a', h⟩

set_option maxRecDepth 100000 in
set_option maxHeartbeats 8000000 in
theorem fields_walk (A : Option Addr) (c : Nat) (vs : List FdV) (B : Option Addr) (d : Nat) (bs : List Nat) (w : World) (ha : FdsAt w w.heap.size A vs) (hl : vs.length ≤ 9223372036854775807) (hb : BytesAt w w.heap.size B bs) (hbd : bs.length ≤ d) (hdm : d ≤ 9223372036854775807) (hg : HandleAt w) :
    Calls Tryd.prog 3 #[.slice A vs.length c, .slice B bs.length d] w fun e w' => e = .returned (.bool true) ∧ Grew w w' := by
  have Hg := hid hg
  have HA := hid ha
  have HB := hid hb
  have CG := hid (fun (w1 : World) (hg1 : Grew w w1) => great_c A c vs w1 ⟨fun v hv => (((ha.1 v hv).kept (F := fun _ => False) (.of_grew hg1) (Nat.le_refl _) (fun _ _ _ h => h)).wide hg1.below.size), fun hn => by
    obtain ⟨ad, e, hb, hc⟩ := ha.2 hn
    exact ⟨ad, e, Nat.lt_of_lt_of_le hb hg1.below.size, fun i v hv j u hu => by rw [hg1.below.cell (by rw [block_add]; exact hb)]; exact hc i v hv j u hu⟩⟩ hl)
  obtain ⟨n, en⟩ : ∃ n, n = vs.length := ⟨_, rfl⟩
  rw [← en] at CG hl ⊢
  have EN := hid en
  obtain ⟨p, ep⟩ : ∃ p, p = bs.length := ⟨_, rfl⟩
  rw [← ep] at hbd ⊢
  have EP := hid ep
  have HBD := hid (And.intro hbd hdm)
  have hpm : p ≤ 9223372036854775807 := by omega
  have C0 := hid (write_nil_c w)
  clear hg ha en ep hb hbd hdm
  go_enter Tryd.func3, Tryd.ntmps3
  go_wp2_with fail
  refine C0.out.mono ?_
  rintro e w1 ⟨rfl, hg1⟩
  have HG1 := hid hg1
  have C1 := hid (wtext_nil_c ⟨#[120]⟩ w1 (by decide))
  clear hg1 C0
  go_wp2_with fail
  refine C1.out.mono ?_
  rintro e w2 ⟨rfl, hg2⟩
  have HG2 := hid (HG1.out.trans hg2)
  clear hg2 C1 HG1
  go_wp2_with fail
  refine (all_nil_p _).mono ?_
  rintro e w2 ⟨rfl, rfl⟩
  go_wp2_with fail
  refine (rint_nil_c _ _ _).mono ?_
  rintro e w2 ⟨rfl, rfl⟩
  go_wp2_with fail
  refine (rints_nil_c _ _ _ _).mono ?_
  rintro e w2 ⟨rfl, rfl⟩
  go_wp2_with fail
  refine (rtext_nil_c _ _).mono ?_
  rintro e w2 ⟨rfl, rfl⟩
  go_wp2_with fail
  refine (rdone_nil_c _).mono ?_
  rintro e w2 ⟨rfl, rfl⟩
  go_wp2_with fail
  refine (num_c 2 _ (Hg.out.grew HG2.out)).mono ?_
  rintro e w3 ⟨rfl, hg3⟩
  have HG3 := hid (HG2.out.trans hg3)
  clear hg3 HG2
  go_wp2_with fail
  refine (CG.out _ HG3.out).mono ?_
  rintro e w3 ⟨rfl, rfl⟩
  clear CG
  by_cases hbig : big6 vs = true ∨ 900 < p
  · have t1 : 900 < p → (900 : Int) < p := fun h => by omega
    rcases (by cases hx : big6 vs <;> simp [hx] at hbig ⊢ <;> exact hbig : big6 vs = true ∨ (big6 vs = false ∧ 900 < p)) with h1 | ⟨h1, h2⟩
    · rw [h1]
      clear hbig t1 h1
      go_wp2_with fail
      refine (sure6_c _ (Hg.out.grew HG3.out)).mono ?_
      rintro e w4 ⟨rfl, hg⟩
      have HE := hid (HG3.out.trans hg)
      clear hg
      go_wp2_with fail
      go_ret
      exact ⟨rfl, HE.out⟩
    · rw [h1]
      have t2 := t1 h2
      clear hbig t1 h1
      go_wp2_with fail
      refine (sure6_c _ (Hg.out.grew HG3.out)).mono ?_
      rintro e w4 ⟨rfl, hg⟩
      have HE := hid (HG3.out.trans hg)
      clear hg
      go_wp2_with fail
      go_ret
      exact ⟨rfl, HE.out⟩
  · have hb2 : big6 vs = false := by
      cases hx : big6 vs
      · rfl
      · exact absurd (.inl hx) hbig
    have hp9 : p ≤ 900 := by
      rcases Nat.lt_or_ge 900 p with h | h
      · exact absurd (.inr h) hbig
      · exact h
    have t2 : ¬ (900 : Int) < p := by omega
    have hs := small_of hb2
    have hn20 : n ≤ 20 := by rw [EN.out]; exact hs.1
    have HS := hid hs.2
    rw [hb2]
    clear hbig hb2 hs hl hpm
    go_wp2_with fail
    have hws := WS.new HG3.out
    obtain ⟨gx, hgx⟩ : ∃ gx, gx = w3.heap.size := ⟨_, rfl⟩
    rw [← hgx] at hws ⊢
    have hg4 := HG3.out.alloc (.cells #[.pointer none, .int .i64 0] 43)
    have hgs : gx < (w3.alloc (.cells #[.pointer none, .int .i64 0] 43)).heap.size := by rw [hgx]; simp
    generalize w3.alloc (.cells #[.pointer none, .int .i64 0] 43) = w4 at *
    have CR := hid (read_c B d bs w4 (HB.out.grew hg4) (by rw [← EP.out]; omega))
    rw [← EP.out] at CR
    have HWS := hid hws
    have HG4 := hid hg4
    clear hgx hws hg4
    refine CR.out.mono ?_
    rintro e w5 ⟨gy, rfl, hge, hR, hG⟩
    obtain ⟨lo, hlo⟩ : ∃ lo, lo = w4.heap.size := ⟨_, rfl⟩
    have H0 := hid (show PF w w5 gx [] lo gy (some bs) none [] from by
      obtain ⟨Y, h1, h2⟩ := HWS.out
      rw [hlo]
      exact ⟨Y, h1.grew hG, hR, NumsAt.nil _ _ _ _, h2.below.size, hge, h2.trans hG, fun k hy => .inl (h1.1 k hy).2, fun ad h => by cases h⟩)
    clear hR hG CR HWS hge hgs hlo
    go_wp2_with fail
    go_loopw [9, 10, 11] (fun s9 s10 s11 wr => ∃ (i : Nat) (Aw : Option Addr) (cw : Nat) (Lw : List Nat) (a : Int), s9 = .slice Aw (List.length Lw) cw ∧ s10 = .int .i64 a ∧ s11 = .int .i64 ((i : Nat) : Int) ∧ i ≤ n ∧ Hid (PF w wr gx Lw lo gy (Pk.takes (some bs) (fds (vs.take i))) Aw Lw ∧ Lw = Pk.puts (fds (vs.take i)) ∧ AtSt bs a (Pk.takes (some bs) (fds (vs.take i))))) (fun _ _ s11 _ => n - (intOf s11).toNat)
    case atStart => exact ⟨0, none, 0, [], 0, rfl, rfl, rfl, Nat.zero_le _, hid ⟨by simpa [fds, Pk.takes] using H0.out, by simp [fds, Pk.puts], by simpa [fds, Pk.takes] using AtSt.start bs⟩⟩
    case round =>
      clear H0
      obtain ⟨i, Aw, cw, Lw, a, rfl, rfl, rfl, hi, H⟩ := hrel
      by_cases hlt : i < n
      · have f1 : (i : Int) < n := by omega
        obtain ⟨v, hv⟩ : ∃ v, vs[i]? = some v := ⟨_, List.getElem?_eq_getElem (show i < vs.length by rw [← EN.out]; exact hlt)⟩
        have hmem := List.mem_of_getElem? hv
        have hsm := HS.out v hmem
        have hok := HA.out.1 v hmem
        have hlw : Lw.length ≤ 20000 := by
          have := puts_len (fds (vs.take i)) (fun f hf => by
            obtain ⟨u, hu, rfl⟩ := List.mem_map.1 hf
            exact HS.out u (List.mem_of_mem_take hu))
          have h2 : (fds (vs.take i)).length ≤ i := by simp [fds]; omega
          rw [H.out.2.1]
          omega
        have CW := hid (H.out.1.write v hok (by omega))
        have CP := hid (fun (w6 : World) (hp : PF w w6 gx (Lw ++ Pk.put v.f) lo gy (Pk.takes (some bs) (fds (vs.take i))) Aw Lw) => rput6_c Aw cw Lw v w6 hp.nums ((hok.kept (F := fun _ => False) (.of_grew hp.above) (Nat.le_refl _) (fun _ _ _ h => h)).wide hp.above.below.size) (by omega))
        have CT := hid (fun (w6 : World) (hg6 : Grew w w6) => rtake_cells (st := Pk.takes (some bs) (fds (vs.take i))) v.f v.A v.c (HB.out.grew hg6) (by rw [← EP.out]; exact HBD.out.1) HBD.out.2 (by rw [← EP.out]; omega) H.out.2.2 hok.kind)
        rw [← EP.out] at CT
        have HTk := hid (show Pk.takes (some bs) (fds (vs.take (i + 1))) = (Pk.take (Pk.takes (some bs) (fds (vs.take i))) v.f).2 by rw [fds_take hv, Pk.takes_snoc])
        have HPt := hid (show Pk.puts (fds (vs.take (i + 1))) = Lw ++ Pk.put v.f by rw [fds_take hv, Pk.puts_snoc, H.out.2.1])
        have hrest : (Pk.rest (Pk.takes (some bs) (fds (vs.take i)))).length ≤ 900 := by
          have := takes_rest (fds (vs.take i)) (some bs)
          have h2 : (Pk.rest (some bs)).length = p := by rw [EP.out]; rfl
          omega
        have CRd := hid (fun (w6 : World) (hr : RdAt w6 lo gy (Pk.takes (some bs) (fds (vs.take i)))) => fread_cells v.f v.A v.c hr H.out.1.rd.2.1 hok.kind (by omega))
        have HTL := hid (Nat.le_trans (take_llen (Pk.takes (some bs) (fds (vs.take i))) v.f) hrest)
        generalize Pk.takes (some bs) (fds (vs.take i)) = st at *
        have HFC := hid (fun (w6 : World) (hg6 : Grew w w6) => fds_cells HA.out hg6 hv)
        have HPL := hid (show (Lw ++ Pk.put v.f).length ≤ 30000 by
          have := (Pk.put_len v.f).2
          rw [List.length_append]
          omega)
        obtain ⟨ad, hAad, _⟩ := HA.out.2 (by rw [← EN.out]; omega)
        subst hAad
        have HFC2 := hid (fun (w6 : World) (hg6 : Grew w w6) => by
          obtain ⟨ad', e, h⟩ := HFC.out w6 hg6
          obtain rfl := Option.some.inj e
          exact h)
        obtain ⟨q0, q1, q2, q3, q4, q5, q6⟩ := HFC2.out wr H.out.1.above
        obtain ⟨⟨kind, n0, l, s, many, flo, fhi⟩, A1, c1⟩ := v
        simp only at q0 q1 q2 q3 q4 q5 q6 CRd HFC2
        simp only [FdV.cells] at CW CP
        simp only at CT
        clear hv hmem hsm hok hlw hrest HFC
        obtain ⟨tk, htk⟩ : ∃ tk, tk = Pk.take st ⟨kind, n0, l, s, many, flo, fhi⟩ := ⟨_, rfl⟩
        rw [← htk] at CT HTk HTL CRd
        obtain ⟨⟨fk, fn, fl, fs, fm, flo2, fhi2⟩, st'⟩ := tk
        simp only at CT HTk HTL CRd
        obtain ⟨len, hlen⟩ : ∃ len, len = l.length := ⟨_, rfl⟩
        rw [← hlen] at CW CP CT CRd q2 HFC2
        obtain ⟨flen, hflen⟩ : ∃ flen, flen = fl.length := ⟨_, rfl⟩
        rw [← hflen] at CT CRd HTL
        have HFL := hid hflen
        clear htk hlen hflen
        go_wp2_with fail
        refine CW.out.mono ?_
        rintro e w6 ⟨rfl, hp6⟩
        have CP6 := hid (CP.out w6 hp6)
        have HP6 := hid hp6
        clear q0 q1 q2 q3 q4 q5 q6 CW CP hp6
        obtain ⟨q0, q1, q2, q3, q4, q5, q6⟩ := HFC2.out w6 HP6.out.above
        go_wp2_with fail
        refine CP6.out.mono ?_
        rintro e w7 ⟨A7, c7, L7, rfl, hn7, hL7, ha7, hg7⟩
        subst hL7
        have HP7 := hid (HP6.out.want hg7 hn7 ha7)
        obtain ⟨X, hX⟩ : ∃ X, X = Lw ++ Pk.put ⟨kind, n0, l, s, many, flo, fhi⟩ := ⟨_, rfl⟩
        rw [← hX] at HP7 HPt HPL ⊢
        clear hn7 ha7 hg7 hX CP6 HP6 q0 q1 q2 q3 q4 q5 q6
        have CT7 := hid (CT.out w7 HP7.out.above)
        obtain ⟨q0, q1, q2, q3, q4, q5, q6⟩ := HFC2.out w7 HP7.out.above
        go_wp2_with fail
        refine CT7.out.mono ?_
        rintro e w8 ⟨A8, c8, a2, rfl, hok8, hnew8, hat8, hg8⟩
        have HP8 := hid (HP7.out.grew hg8)
        have HAT := hid hat8
        have hgy7 := HP7.out.rd.1.lt
        have HF8 := hid (And.intro hok8 (show ∀ ad, A8 = some ad → ad.block ≠ gy from fun ad e => by have := hnew8 ad e; omega))
        clear hok8 hnew8 hat8 hg8 CT CT7 q0 q1 q2 q3 q4 q5 q6
        go_upto_region 20 with fail
        obtain ⟨xl, hxl⟩ : ∃ xl, xl = X.length := ⟨_, rfl⟩
        rw [← hxl]
        have HXL := hid hxl
        have hbf := Blk.new w8 29 #[.int .u8 ((fk : Nat) : Int), .int .i64 fn, .slice A8 flen c8, .string fs, .int .i64 fm, .int .i64 flo2, .int .i64 fhi2]
        have hg9 := (Grew.refl w8).alloc (.cells #[.int .u8 ((fk : Nat) : Int), .int .i64 fn, .slice A8 flen c8, .string fs, .int .i64 fm, .int .i64 flo2, .int .i64 fhi2] 29)
        have hgy8 := HP8.out.rd.1.lt
        have HJ0 := hid (show Pf20 w gx X lo gy st st' A7 w8.heap.size ⟨⟨fk, fn, fl, fs, fm, flo2, fhi2⟩, A8, c8⟩ false (w8.alloc (.cells #[.int .u8 ((fk : Nat) : Int), .int .i64 fn, .slice A8 flen c8, .string fs, .int .i64 fm, .int .i64 flo2, .int .i64 fhi2] 29)) from
          ⟨HP8.out.grew hg9, by unfold FdV.cells; simp only; rw [← HFL.out]; exact hbf, by omega, (HF8.out.1.kept (F := fun _ => False) (.of_grew hg9) (Nat.le_refl _) (fun _ _ _ h => h)).wide hg9.below.size, HF8.out.2⟩)
        generalize hw9 : w8.alloc (.cells #[.int .u8 ((fk : Nat) : Int), .int .i64 fn, .slice A8 flen c8, .string fs, .int .i64 fm, .int .i64 flo2, .int .i64 fhi2] 29) = w9 at *
        generalize w8.heap.size = Hf at *
        clear hw9 hbf hg9 hgy8 hgy7 hxl HP7 HP8 HF8
        have CAll := hid (fun (w6 : World) (b : Bool) (hj : Pf20 w gx X lo gy st st' A7 Hf ⟨⟨fk, fn, fl, fs, fm, flo2, fhi2⟩, A8, c8⟩ b w6) => (hj.1.all (by have := HPL.out; omega)).mono fun e w' (h : AllPost w6 X e w') => show ∃ A3 c3, e = .returned (.slice A3 xl c3) ∧ NumsAt .u8 w' w'.heap.size A3 X ∧ (∀ ad, A3 = some ad → ad.block ≠ gy) ∧ Grew w6 w' from by
          obtain ⟨A3, c3, h1, h2, h3⟩ := h
          have hgy := hj.1.rd.1.lt
          rw [← HXL.out] at h1
          exact ⟨A3, c3, h1, h2.nums, fun ad e => by have := (h2.in ad e).1; omega, h3⟩)
        have CSame := hid (fun (w6 : World) (A3 : Option Addr) (c3 : Nat) (h3 : FdOk w6 w6.heap.size ⟨⟨fk, fn, fl, fs, fm, flo2, fhi2⟩, A3, c3⟩) (hj : FdOk w6 w6.heap.size ⟨⟨fk, fn, fl, fs, fm, flo2, fhi2⟩, A8, c8⟩) => show Calls Tryd.prog 19 #[.agg #[.int .u8 ((fk : Nat) : Int), .int .i64 fn, .slice A3 flen c3, .string fs, .int .i64 fm, .int .i64 flo2, .int .i64 fhi2], .agg #[.int .u8 ((fk : Nat) : Int), .int .i64 fn, .slice A8 flen c8, .string fs, .int .i64 fm, .int .i64 flo2, .int .i64 fhi2]] w6 (fun e w' => e = .returned (.bool true) ∧ Grew w6 w') from by
          have := same_c ⟨⟨fk, fn, fl, fs, fm, flo2, fhi2⟩, A3, c3⟩ ⟨⟨fk, fn, fl, fs, fm, flo2, fhi2⟩, A8, c8⟩ w6 h3 hj (.inl (by simp only; rw [← HFL.out]; have := HTL.out; omega))
          simp only [FdV.cells] at this
          rw [sameF_refl, ← HFL.out] at this
          exact this)
        have HBf := hid (fun (w6 : World) (b : Bool) (hj : Pf20 w gx X lo gy st st' A7 Hf ⟨⟨fk, fn, fl, fs, fm, flo2, fhi2⟩, A8, c8⟩ b w6) => show Blk w6 Hf 29 #[.int .u8 ((fk : Nat) : Int), .int .i64 fn, .slice A8 flen c8, .string fs, .int .i64 fm, .int .i64 flo2, .int .i64 fhi2] from by
          have := hj.2.1
          unfold FdV.cells at this
          simp only at this
          rw [← HFL.out] at this
          exact this)
        obtain ⟨S, hS⟩ : ∃ S, S = Pk.strB X := ⟨_, rfl⟩
        have HCvA := hid (fun (w6 : World) (A3 : Option Addr) (c3 : Nat) (h3 : NumsAt .u8 w6 w6.heap.size A3 X) => conv6 A3 c3 X w6 h3)
        rw [← hS, ← HXL.out] at HCvA
        clear hS
        have hz : (S.toList == S.toList) = true := by simp
        refine wp_region_facts3 (w0 := w9) _ 1 17 [87, 88, 89, 90, 91, 92, 93, 94, 95, 96, 97, 98, 99, 100, 101, 102, 103] []
          (Pf20F (.slice (some ad) n c) i ad gx gy (.agg #[.int .u8 ((kind : Nat) : Int), .int .i64 n0, .slice A1 len c1, .string s, .int .i64 many, .int .i64 flo, .int .i64 fhi]) ⟨fk, fn, fl, fs, fm, flo2, fhi2⟩ (.agg #[.int .u8 ((fk : Nat) : Int), .int .i64 fn, .slice A8 flen c8, .string fs, .int .i64 fm, .int .i64 flo2, .int .i64 fhi2]) (.slice A7 xl c7) X xl flen S)
          (Kept (· = gy)) (Pf20 w gx X lo gy st st' A7 Hf ⟨⟨fk, fn, fl, fs, fm, flo2, fhi2⟩, A8, c8⟩) 5 (May.kept _) (by kernel_rfl) (by kernel_rfl) (Kept.refl _ _).drew (HJ0.out.grew (Grew.refl _).drew) Pf20F.mono ?_ ?_
        · repeat' (first | exact trivial | apply And.intro)
          all_goals
            intro aa w' b hgw hJ hbm hs hA
            have e0 := hs.eval 0 (by decide) (v := .slice (some ad) n c) rfl
            have e8 := hs.eval 8 (by decide) (v := .pointer (some ⟨gy, 0, none⟩)) rfl
            have e11 := hs.eval 11 (by decide) (v := .int .i64 ((i : Nat) : Int)) rfl
            have e12 := hs.eval 12 (by decide) (v := .pointer (some ⟨Hf, 0, none⟩)) rfl
            have e7 := hs.eval 7 (by decide) (v := .pointer (some ⟨gx, 0, none⟩)) rfl
            have e9 := hs.eval 9 (by decide) (v := .slice A7 xl c7) rfl
            have HJ := hid hJ
            clear hs hgw hJ
            simp only [Ahead, Region.binds, slotOf, Pf20F, List.getD_cons_succ, List.getD_cons_zero, forall_const, and_true] at hA
            simp only [wantedD, isBool, slotOf, List.getD_cons_succ, List.getD_cons_zero, hA, if_true, beq_self_eq_true]
            unfold Oper.wp
            have ec : ∀ v, aa.eval (.const v) = v := fun _ => rfl
            generalize hf : aa.eval = f at *
            have ef : ∀ k, f (.func k) = Act.eval ⟨#[], []⟩ (.func k) := fun k => by rw [← hf]; rfl
            clear hf
            first
              | (go_simp; exact Gives3.of rfl (Kept.refl _ _) rfl HJ.out)
              | (obtain rfl := hbm rfl
                 go_simp
                 refine (CRd.out _ HJ.out.1.rd.1).mono ?_
                 rintro e w11 ⟨A3, c3, rfl, h1, h2, h3, h4⟩
                 exact Gives3.of rfl h4 ⟨A3, c3, rfl, h1, fun ad e => by have := h2 ad e; have := HJ.out.1.rd.1.lt; omega⟩ (HJ.out.read h3 h4))
              | (obtain ⟨⟨A3, c3, h1, h2, h3⟩, h6, _⟩ := hA
                 go_simp
                 refine (CSame.out w' A3 c3 h2 HJ.out.2.2.2.1).mono ?_
                 rintro e w11 ⟨rfl, hg⟩
                 exact Gives3.of rfl (.of_grew hg) rfl (HJ.out.grew hg))
              | (obtain ⟨⟨A3, c3, h1, h2, h3⟩, _⟩ := hA
                 have hk := HCvA.out w' A3 c3 h2
                 clear h2 h3
                 go_simp
                 exact Gives3.of rfl (Kept.refl _ _) rfl HJ.out)
              | (go_simp
                 refine (CAll.out _ b HJ.out).mono ?_
                 rintro e w11 ⟨A3, c3, rfl, h1, h2, h3⟩
                 exact Gives3.of rfl (.of_grew h3) ⟨A3, c3, rfl, h1, h2⟩ (HJ.out.grew h3))
              | (obtain ⟨q0, q1, q2, q3, q4, q5, q6⟩ := HFC2.out w' HJ.out.1.above
                 go_simp
                 exact Gives3.of rfl (Kept.refl _ _) rfl HJ.out)
              | (obtain ⟨y0, y1, y2, y3, y4, y5, y6, _⟩ := (HBf.out w' b HJ.out).seven
                 go_simp
                 exact Gives3.of rfl (Kept.refl _ _) rfl HJ.out)
              | (have hk := HCvA.out w' A7 c7 HJ.out.1.nums
                 go_simp
                 exact Gives3.of rfl (Kept.refl _ _) rfl HJ.out)
        · intro aa w10 hgw hs hf hJ _
          have h16 := hf 16 (by decide)
          simp only [slotOf, Pf20F, List.getD_cons_succ, List.getD_cons_zero] at h16
          obtain ⟨f, rfl, hft⟩ := hs.put
          rw [hft] at h16
          have HJ := hid (show PF w w10 gx X lo gy st' A7 X from hJ.1)
          clear hf hft hs hJ hgw HJ0 CAll CSame HBf HCvA CRd HFC2 hz
          simp only [List.drop_succ_cons, List.drop_nil, wpList, putAll, List.foldl_cons, List.foldl_nil, Act.put, List.setIfInBounds_toArray, List.set_cons_succ, List.set_cons_zero, h16]
          clear h16
          go_wp2_with fail
          have CD := hid (rdone_c lo gy st' w10 HJ.out.rd.1)
          unfold RDonePost at CD
          have HEnd := hid (show X = Pk.puts (fds (vs.take (i + 1))) ∧ st' = Pk.takes (some bs) (fds (vs.take (i + 1))) from ⟨HPt.out.symm, HTk.out.symm⟩)
          by_cases hst : st' = some []
          · rw [if_pos hst] at CD
            have hae := HAT.out.all.2 hst
            rw [← EP.out] at hae
            have t1 : (a2 == (p : Int)) = true := by rw [hae]; simp
            clear hae hst
            refine CD.out.mono ?_
            rintro e w11 ⟨rfl, rfl⟩
            rw [show errVal 0 = .nilIface from rfl]
            clear CD
            go_wp2_with fail
            go_roundw
            case rel => exact ⟨i + 1, A7, c7, X, a2, by rw [HXL.out], rfl, by go_num, by omega, hid ⟨by rw [← HEnd.out.2]; exact HJ.out, HEnd.out.1, by rw [← HEnd.out.2]; exact HAT.out⟩⟩
            case measure => simp [intOf]; omega
          · rw [if_neg hst] at CD
            have hae : a2 ≠ (p : Int) := fun h => hst (HAT.out.all.1 (by rw [← EP.out]; exact h))
            have t1 : (a2 == (p : Int)) = false := by rw [beq_eq_false_iff_ne]; exact hae
            clear hae hst
            refine CD.out.mono ?_
            rintro e w11 ⟨rfl, rfl⟩
            have CNum := hid (num_c 2 _ (Hg.out.grew HJ.out.above))
            rw [show errVal 2 = .iface 66 (.int .i64 2) from rfl] at CNum ⊢
            clear CD
            go_wp2_with fail
            refine CNum.out.mono ?_
            rintro e w12 ⟨rfl, hg12⟩
            have HJ2 := hid (HJ.out.grew hg12)
            clear hg12 CNum
            go_wp2_with fail
            go_roundw
            case rel =>
              repeat apply Exists.intro
              exact ⟨⟨i + 1, A7, c7, X, a2, by rw [HXL.out], rfl, by go_num, by omega, hid ⟨by rw [← HEnd.out.2]; exact HJ2.out, HEnd.out.1, by rw [← HEnd.out.2]; exact HAT.out⟩⟩, rfl⟩
            case measure => simp [intOf]; omega
      · obtain rfl : i = n := by omega
        have HGf := hid H.out.1.above
        clear H
        go_wp2_with fail
        refine (sure6_c _ (Hg.out.grew HGf.out)).mono ?_
        rintro e w6 ⟨rfl, hg⟩
        have HE := hid (HGf.out.trans hg)
        clear hg
        go_wp2_with fail
        go_ret
        exact ⟨rfl, HE.out⟩
end Go.Proofs.YtglekjhbpdoofaaDoor

/- ObjectHashes: the walk of the law. -/
import Derived.Test.YtcfknfiddadgbaaDoorOcJ
namespace Go.Proofs.YtcfknfiddadgbaaDoor
open Go.RowKit

theorem new_cases {w w' : World} {up : List Nat} {l : List Ob.Obj} {e : Ending} (h : NewPost w up l e w') : (La.valid up = true ∧ l.all (Ob.mayB up.length) = true ∧ ∃ s, e = .returned (.tuple #[.pointer (some ⟨s.g, 0, none⟩), .nilIface]) ∧ StoreAt w' w.heap.size s ∧ s.up = up ∧ objsI s.its = l ∧ Grew w w') ∨ ∃ k : Int, e = .returned (.tuple #[.pointer none, .iface 77 (.int .i64 k)]) ∧ Grew w w' := by
  unfold NewPost at h
  by_cases h1 : La.valid up = true
  · rw [if_pos h1] at h
    by_cases h2 : l.all (Ob.mayB up.length) = true
    · rw [if_pos h2] at h
      exact .inl ⟨h1, h2, h⟩
    · rw [if_neg h2] at h
      exact .inr ⟨1, h⟩
  · rw [if_neg h1] at h
    exact .inr ⟨7, h⟩
theorem cnt_next {l : List Ob.Obj} {i : Nat} {o : Ob.Obj} (h : l[i]? = some o) (x : Int) : Ob.cnt (l.take (i + 1)) x = Ob.cnt (l.take i) x + if o.lev = x then 1 else 0 := by
  rw [List.take_add_one, h, Option.toList_some, Ob.cnt_snoc]
set_option maxRecDepth 100000 in
set_option maxHeartbeats 16000000 in
theorem hashes11_walk (A0 : Option Addr) (c0 : Nat) (up : List Nat) (A1 : Option Addr) (c1 : Nat) (l : List OV) (w : World) (hE : HandleAt w) (hU : BytesAt w w.heap.size A0 up) (hL : ObjsAt w A1 l) :
    Calls Tryd.prog 5 #[.slice A0 up.length c0, .slice A1 l.length c1] w fun e w' => e = .returned (.bool true) ∧ Grew w w' := by
  have HE := hid hE
  have HU := hid hU
  have HA := hid hL
  have HBig := hid (bigObjs_c A1 c1 l w hL)
  obtain ⟨n, en⟩ : ∃ n, n = l.length := ⟨_, rfl⟩
  rw [← en] at HBig
  rw [← en]
  have EN := hid en
  clear hE hU hL en
  go_enter Tryd.func5, Tryd.ntmps5
  by_cases h20 : up.length ≤ 20
  · have g20 : ¬ (20 : Int) < (up.length : Int) := by omega
    cases hb : bigB (objs l)
    · rw [hb] at HBig
      have HFit := hid (fit_of hb)
      clear hb
      go_upto_region 3 with (go_at_call 12; refine HBig.out.mono ?_; rintro e w1 ⟨rfl, hg1⟩)
      have HG1 := hid hg1
      clear hg1 HBig
      go_wp2_with (at_builtin; refine wpList_copy_bytes w1 rfl _ _ 22 5 rfl Tryd.underlying22 (by kernel_rfl) A0 c0 up _ rfl (by rfl) (by rfl) (HU.out.grew HG1.out) (by omega) ?_; rintro U1 cu1 w2 hA2 hW2; have HU2 := hid hA2; have HG2 := hid (HG1.out.trans hW2); clear hA2 hW2)
      have hgive := giveObjs_c A1 c1 l w2 (HA.out.grew HG2.out) (fun v hv => by have := HFit.out.2.f _ (objs_mem hv); omega) (by have := HFit.out.1; rw [objs_len] at this; omega)
      rw [← EN.out] at hgive
      refine hgive.mono ?_
      rintro e w3 ⟨vs, A3, c3, rfl, hvo, hv3, hg3⟩
      have HG3 := hid (HG2.out.trans hg3)
      have HVs := hid hvo
      have hnew := new_c U1 cu1 up A3 c3 vs w3 h20 (HU2.out.grew hg3) hv3 (by have h1 := HFit.out.1; have h2 := congrArg List.length hvo; rw [objs_len] at h2; omega)
      rw [hvo] at hnew
      clear hgive hg3 hv3 hvo
      go_wp2_with fail
      refine hnew.mono ?_
      intro e w4 hpost
      rcases new_cases hpost with ⟨hval, hall, s, rfl, hs, hsu, hsl, hg4⟩ | ⟨k, rfl, hg4⟩
      · have HS := hid hs
        have HSl := hid hsl
        have HG4 := hid (HG3.out.trans hg4)
        have hlen : s.its.length = n := by
          have h1 := congrArg List.length hsl
          rw [objsI_len, objs_len, ← EN.out] at h1
          exact h1
        have HLn := hid hlen
        have HLe := hid (fun W (hW : Grew w4 W) => len_c s w3.heap.size W (HS.out.grew hW))
        have HGe := hid (fun W (hW : Grew w4 W) i x (hx : s.its[i]? = some x) => get_c s w3.heap.size i x W (HS.out.grew hW) hx)
        have HHa := hid (fun W (hW : Grew w4 W) i x (hx : s.its[i]? = some x) => hash_c s w3.heap.size i x W (HS.out.grew hW) hx)
        rw [hlen] at HLe
        obtain ⟨sg, esg⟩ : ∃ sg, sg = s.g := ⟨_, rfl⟩
        rw [← esg] at HLe HGe HHa ⊢
        clear hpost hs hsl hsu hval hall hg4 hlen esg HG3 HU2 HG2 HG1 hnew
        obtain ⟨un, eun⟩ : ∃ un, un = up.length := ⟨_, rfl⟩
        rw [← eun] at h20 ⊢
        have hn60 : n ≤ 60 := by have h1 := HFit.out.1; rw [objs_len, ← EN.out] at h1; exact h1
        clear eun
        go_upto_region 7 with fail
        go_loopw [7, 8, 9, 10, 11, 12, 13] (fun s7 _ _ _ _ _ _ wr => ∃ L : Nat, s7 = .int .i64 ((L : Nat) : Int) ∧ L ≤ un ∧ Hid (Grew w4 wr)) (fun s7 _ _ _ _ _ _ _ => un - (intOf s7).toNat)
        case atStart => exact ⟨0, rfl, Nat.zero_le _, hid (Grew.refl _)⟩
        case round =>
          obtain ⟨L, rfl, hL, HR⟩ := hrel
          by_cases hlt : L < un
          · have f1 : (L : Int) < un := by omega
            go_upto_region 11 with fail
            go_loopw [8, 9, 10, 11, 12, 13] (fun s8 s9 _ _ _ _ wr => ∃ (i t : Nat), s9 = .int .i64 ((i : Nat) : Int) ∧ s8 = .int .i64 ((t : Nat) : Int) ∧ i ≤ n ∧ t ≤ i ∧ Hid (t = Ob.cnt ((objs l).take i) (L : Int)) ∧ Hid (Grew w4 wr)) (fun _ s9 _ _ _ _ _ => n - (intOf s9).toNat)
            case atStart => exact ⟨0, 0, rfl, rfl, Nat.zero_le _, Nat.zero_le _, hid (by simp [Ob.cnt]), HR⟩
            case round =>
              obtain ⟨i, t, rfl, rfl, hi, ht, HT, HR2⟩ := hrel
              by_cases hin : i < n
              · have f2 : (i : Int) < n := by omega
                obtain ⟨x, hx⟩ : ∃ x, s.its[i]? = some x := ⟨_, List.getElem?_eq_getElem (by rw [HLn.out]; exact hin)⟩
                have hxo : (objs l)[i]? = some x.o := by rw [← HSl.out]; exact objsI_at hx
                have HC := hid (cnt_next hxo (L : Int))
                have HXh := hid (show x.h = Ob.cnt ((objs l).take i) x.o.lev by rw [HS.out.hs i x hx, HSl.out, Ob.hash_zero_level hxo])
                have HX := hid hx
                clear hx hxo
                go_upto_region 13 with (go_at_call 11; refine (HLe.out _ HR2.out).mono ?_; rintro e w5 ⟨rfl, hg5⟩)
                have HR3 := hid (HR2.out.trans hg5)
                have hget := HGe.out w5 HR3.out i x HX.out
                clear hg5
                go_wp2_with fail
                refine hget.mono ?_
                rintro e w6 ⟨bf, rfl, hbf, hbk, hg6⟩
                have HR4 := hid (HR3.out.trans hg6)
                clear hbf hbk hg6 hget
                obtain ⟨⟨cls, lev, fl, bt⟩, xb, xh⟩ := x
                simp only at HC HXh ⊢
                generalize fl.length = m at *
                go_upto_region 14 with fail
                have hgn := (Grew.refl w6).alloc (.cells #[.int .i64 cls, .int .i64 lev, .slice (some ⟨bf, 0, none⟩) m m, .string bt] 28)
                have hbn := Blk.new w6 28 #[.int .i64 cls, .int .i64 lev, .slice (some ⟨bf, 0, none⟩) m m, .string bt]
                have HR5 := hid (HR4.out.trans hgn)
                generalize w6.alloc (.cells #[.int .i64 cls, .int .i64 lev, .slice (some ⟨bf, 0, none⟩) m m, .string bt] 28) = w7 at *
                generalize w6.heap.size = gb at *
                have HB7 := hid hbn
                have hhash := HHa.out w7 HR5.out i _ HX.out
                clear hgn hbn HX
                go_upto_region 15 with (go_at_call 7; refine hhash.mono ?_; rintro e w8 ⟨rfl, hg8⟩)
                have HR6 := hid (HR5.out.trans hg8)
                have p1 := (HB7.out.grew hg8).cell 1
                have pl := (HB7.out.grew hg8).lt
                simp only [List.getElem?_toArray, List.getElem?_cons_zero, List.getElem?_cons_succ] at p1
                clear hg8 hhash HB7
                by_cases hq : lev = (L : Int)
                · rw [if_pos hq, ← HT.out] at HC
                  rw [hq, ← HT.out] at HXh
                  obtain rfl := HXh.out
                  subst hq
                  go_wp2_with fail
                  go_round
                  case rel => exact ⟨i + 1, xh + 1, by go_num, by go_num, by omega, by omega, hid HC.out.symm, HR6⟩
                  case measure => simp [intOf]; omega
                · rw [if_neg hq, Nat.add_zero, ← HT.out] at HC
                  have hq0 : (lev == (L : Int)) = false := by rw [beq_eq_false_iff_ne]; exact hq
                  clear hq
                  go_wp2_with fail
                  go_round
                  case rel => exact ⟨i + 1, t, by go_num, rfl, by omega, by omega, hid HC.out.symm, HR6⟩
                  case measure => simp [intOf]; omega
              · have hin2 : i = n := by omega
                subst hin2
                go_wp2_with (go_at_call 11; refine (HLe.out _ HR2.out).mono ?_; rintro e w5 ⟨rfl, hg5⟩)
                go_round
                case rel => exact ⟨L + 1, by go_num, by omega, hid (HR2.out.trans hg5)⟩
                case measure => simp [intOf]; omega
          · have hLu : L = un := by omega
            subst hLu
            go_wp2_with (go_at_call 11; refine (HLe.out _ HR.out).mono ?_; rintro e w5 ⟨rfl, hg5⟩)
            refine (sure_c w5 (HE.out.grew ((HG4.out.trans HR.out).trans hg5))).mono ?_
            rintro e w9 ⟨rfl, hg9⟩
            go_wp2_with fail
            go_ret
            exact ⟨rfl, ((HG4.out.trans HR.out).trans hg5).trans hg9⟩
      · have HG4 := hid (HG3.out.trans hg4)
        clear hpost hg4
        go_wp2_with (go_at_call 13; refine (sure_c w4 (HE.out.grew HG4.out)).mono ?_; rintro e w9 ⟨rfl, hg9⟩)
        go_ret
        exact ⟨rfl, HG4.out.trans hg9⟩
    · rw [hb] at HBig
      go_wp2_with (first | (go_at_call 12; refine HBig.out.mono ?_; rintro e w1 ⟨rfl, hg1⟩) | (go_at_call 13; refine (sure_c w1 (HE.out.grew hg1)).mono ?_; rintro e w9 ⟨rfl, hg9⟩))
      go_ret
      exact ⟨rfl, hg1.trans hg9⟩
  · have g20 : (20 : Int) < (up.length : Int) := by omega
    go_wp2_with (go_at_call 13; refine (sure_c w HE.out).mono ?_; rintro e w9 ⟨rfl, hg9⟩)
    go_ret
    exact ⟨rfl, hg9⟩
end Go.Proofs.YtcfknfiddadgbaaDoor

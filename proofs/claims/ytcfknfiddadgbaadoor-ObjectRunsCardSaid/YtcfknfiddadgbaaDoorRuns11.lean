/- ObjectRuns: the walk of the law. -/
import Derived.Test.YtcfknfiddadgbaaDoorOcL
namespace Go.Proofs.YtcfknfiddadgbaaDoor
open Go.RowKit

set_option maxRecDepth 100000 in
theorem put_nil (w : World) : Calls Tryd.prog 10 #[.pointer none, .int .i64 0, .int .i64 0, .int .i64 0, .agg #[.int .u8 0, .int .i64 0, .int .i64 0]] w fun e w' => e = .returned (.iface 77 (.int .i64 1)) ∧ Grew w w' := by
  have G1 := (Grew.refl w).alloc (.cells #[.int .u8 0, .int .i64 0, .int .i64 0] 39)
  go_enter Tryd.func10, Tryd.ntmps10
  go_upto_region 1 with fail
  generalize w.alloc (.cells #[.int .u8 0, .int .i64 0, .int .i64 0] 39) = w1 at *
  have HG1 := hid G1
  clear G1
  refine wp_region_grew_from (w0 := w1) (Grew.refl w1) (by kernel_rfl) (by kernel_rfl) ?_
  repeat (go_big_quiet_step (fail))
  refine wpQuiet_nil ?_
  rintro _ ⟨y, rfl⟩
  go_wp2_with fail
  go_ret
  exact ⟨rfl, HG1.out.trans y.grew⟩
/-- What New left, whatever it is. -/
def NewV (w w' : World) (up : List Nat) (l : List Ob.Obj) (sv se : Value) : Prop :=
  (La.valid up = false → sv = .pointer none ∧ se = .iface 77 (.int .i64 7)) ∧
  (La.valid up = true → l.all (Ob.mayB up.length) = false → sv = .pointer none ∧ se = .iface 77 (.int .i64 1)) ∧
  (La.valid up = true → l.all (Ob.mayB up.length) = true → ∃ s, sv = .pointer (some ⟨s.g, 0, none⟩) ∧ se = .nilIface ∧ StoreAt w' w.heap.size s ∧ s.up = up ∧ objsI s.its = l)
theorem new_pair {w w' : World} {up : List Nat} {l : List Ob.Obj} {e : Ending} (h : NewPost w up l e w') : ∃ sv se, e = .returned (.tuple #[sv, se]) ∧ NewV w w' up l sv se ∧ Grew w w' := by
  cases h1 : La.valid up
  · obtain ⟨he, hg⟩ := new_lat h h1
    exact ⟨_, _, he, ⟨fun _ => ⟨rfl, rfl⟩, (fun h2 => by rw [h1] at h2; cases h2), (fun h2 => by rw [h1] at h2; cases h2)⟩, hg⟩
  · cases h2 : l.all (Ob.mayB up.length)
    · obtain ⟨he, hg⟩ := new_may h h1 h2
      exact ⟨_, _, he, ⟨(fun h3 => by rw [h1] at h3; cases h3), fun _ _ => ⟨rfl, rfl⟩, (fun _ h3 => by rw [h2] at h3; cases h3)⟩, hg⟩
    · obtain ⟨s, he, hs, hu, hl, hg⟩ := new_ok h h1 h2
      exact ⟨_, _, he, ⟨(fun h3 => by rw [h1] at h3; cases h3), (fun _ h3 => by rw [h2] at h3; cases h3), fun _ _ => ⟨s, rfl, rfl, hs, hu, hl⟩⟩, hg⟩
theorem objs_sub {w : World} {ad : Addr} {l : List OV} (h : ObjsAt w (some ad) l) {i : Nat} {z : OV} (hz : l[i]? = some z) : ObjsAt w (some (ad.add (i * 4))) [z] := ⟨fun v hv => by
  obtain rfl := List.mem_singleton.1 hv
  exact h.ok _ (List.mem_of_getElem? hz), fun _ => by
  obtain ⟨ad', e, hb, hc⟩ := h.cells (by have := (List.getElem?_eq_some_iff.1 hz).1; omega)
  cases e
  refine ⟨_, rfl, by rw [block_add]; exact hb, fun k v hk j u hu => ?_⟩
  have hk0 : k = 0 := by
    have := (List.getElem?_eq_some_iff.1 hk).1
    simpa using this
  subst hk0
  obtain rfl : z = v := by simpa using hk
  rw [Nat.zero_mul, Nat.zero_add, add_add]
  exact hc i z hz j u hu⟩
/-- What the operations of Add's call give. -/
def AdF (w0 : World) (B : Nat) (s : SV) (sg ga : Nat) (o : Ob.Obj) (oA : Option Addr) (om ocap ln : Nat) (mb : Bool) (k : Nat) (v : Value) (w : World) : Prop := match k with
  | 0 => v = .pointer (some ⟨sg, 0, none⟩)
  | 3 => v = .int .i64 o.cls
  | 5 => v = .pointer (some ⟨ga, 2, none⟩)
  | 6 => v = .int .i64 o.lev
  | 8 => v = .pointer (some ⟨ga, 3, none⟩)
  | 9 => v = .slice oA om ocap
  | 10 => ∃ A2 c2, v = .slice A2 om c2 ∧ Row w w0.heap.size 39 3 A2 om c2 (o.f.flatMap valF)
  | 12 => v = .pointer (some ⟨ga, 4, none⟩)
  | 13 => v = .string o.b
  | 14 => if mb then v = .tuple #[.int .i64 ((ln : Nat) : Int), .nilIface] ∧ AddIn w0 B s o w else v = .tuple #[.int .i64 0, errVal 1] ∧ Grew w0 w
  | 15 => v = if mb then .tuple #[.int .i64 ((ln : Nat) : Int), .nilIface] else .tuple #[.int .i64 0, errVal 1]
  | 16 => v = if mb then .int .i64 ((ln : Nat) : Int) else .int .i64 0
  | 17 => v = if mb then .nilIface else errVal 1
  | 18 => v = if mb then .int .i64 ((ln : Nat) : Int) else .int .i64 0
  | 19 => v = if mb then .nilIface else errVal 1
  | _ => v = .pointer (some ⟨ga, 1, none⟩)
def AdR (s : SV) (j : Nat) : World → World → Prop := if j = 14 then Kept (Owns s) else Kept (fun _ => False)
theorem AdR.zero {s : SV} (j : Nat) (w w' : World) (h : AdR s j w w') : Kept (Owns s) w w' := by
  unfold AdR at h
  split at h
  · exact h
  · exact h.mono (fun _ _ h => h.elim)
theorem AdR.refl {s : SV} (j : Nat) (w : World) : AdR s j w w := by
  unfold AdR
  split <;> exact Kept.refl _ _
theorem AdR.grew {s : SV} {j : Nat} {w w' : World} (h : Grew w w') : AdR s j w w' := by
  unfold AdR
  split <;> exact Kept.of_grew h
theorem AdF.stable {w0 : World} {B : Nat} {s : SV} {sg ga : Nat} {o : Ob.Obj} {oA : Option Addr} {om ocap ln : Nat} {mb : Bool} (hO : ∀ k, Owns s k → k < w0.heap.size) (a b : Nat) (v : Value) (w w' : World) (hab : a ≠ b) (h : AdF w0 B s sg ga o oA om ocap ln mb a v w) (hr : AdR s b w w') : AdF w0 B s sg ga o oA om ocap ln mb a v w' := by
  have h0 := AdR.zero b w w' hr
  unfold AdF at h ⊢
  split at h
  case h_7 =>
    obtain ⟨A2, c2, h1, h2⟩ := h
    exact ⟨A2, c2, h1, h2.kept h0 (fun g hg ho => by have h3 := Row.at_base h2 g ⟨_, hg, rfl⟩; have h4 := hO _ ho; omega)⟩
  case h_10 =>
    unfold AdR at hr
    rw [if_neg (fun e => hab e.symm)] at hr
    have hg : Grew w w' := Kept.grew hr (Grew.refl _) (fun _ h => h.elim)
    cases mb
    · rw [if_neg (by decide)] at h ⊢
      exact ⟨h.1, h.2.trans hg⟩
    · rw [if_pos rfl] at h ⊢
      exact ⟨h.1, h.2.then hg⟩
  all_goals exact h
def AdJ (w0 : World) (B : Nat) (s : SV) (ga : Nat) (bx : Array Value) (f : Nat → Bool) (w : World) : Prop :=
  (f 14 = false → StoreAt w B s ∧ Grew w0 w) ∧ Blk w ga 57 bx
theorem AdJ.pure {w0 : World} {B : Nat} {s : SV} {ga : Nat} {bx : Array Value} {f : Nat → Bool} {w : World} (h : AdJ w0 B s ga bx f w) (j : Nat) : AdJ w0 B s ga bx (updF f j) w := by
  refine ⟨fun h5 => h.1 ?_, h.2⟩
  unfold updF at h5
  split at h5
  · cases h5
  · exact h5
theorem AdJ.grew {w0 : World} {B : Nat} {s : SV} {ga : Nat} {bx : Array Value} {f : Nat → Bool} {w w' : World} (h : AdJ w0 B s ga bx f w) (hg : Grew w w') : AdJ w0 B s ga bx f w' :=
  ⟨fun h5 => ⟨(h.1 h5).1.grew hg, (h.1 h5).2.trans hg⟩, h.2.grew hg⟩
theorem AdJ.app {w0 : World} {B : Nat} {s : SV} {ga : Nat} {bx : Array Value} {f : Nat → Bool} {w w' : World} (h : AdJ w0 B s ga bx f w) (hk : Kept (Owns s) w w') (h1 : ¬ Owns s ga) : AdJ w0 B s ga bx (updF f 14) w' := by
  refine ⟨fun (h5 : updF f 14 14 = false) => ?_, h.2.kept hk h1⟩
  unfold updF at h5
  rw [if_pos rfl] at h5
  cases h5
theorem rput_shape {w w' : World} {up : List Nat} {A : Option Addr} {c : Nat} {l : List OV} {i k under : Int} {v : Ob.Val} {e : Ending} (h : RPut w up A c l i k under v e w') : ∃ (Ap : Option Addr) (np cp : Nat), e = .returned (.tuple #[.slice Ap np cp, .int .i64 ((Ob.putCode up (objs l) i k under v : Nat) : Int)]) ∧ Grew w w' := by
  rcases h with ⟨_, he, hg⟩ | ⟨hc, l2, A2, c2, he, _, _, hg, _⟩
  · exact ⟨_, _, _, he, hg⟩
  · exact ⟨_, _, _, by rw [hc]; exact he, hg⟩
theorem objs_single {vs : List OV} {o : Ob.Obj} (h : objs vs = [o]) : ∃ u, vs = [u] ∧ u.o = o := by
  match vs, h with
  | [u], h => exact ⟨u, rfl, by simpa [objs] using h⟩
  | [], h => simp [objs] at h
  | a :: b :: r, h => simp [objs] at h
set_option maxRecDepth 100000 in
set_option maxHeartbeats 16000000 in
theorem runs11_walk (A0 : Option Addr) (c0 : Nat) (up : List Nat) (A1 : Option Addr) (c1 : Nat) (l : List OV) (A2 : Option Addr) (c2 : Nat) (acts : List AV) (w : World) (hE : HandleAt w) (hU : BytesAt w w.heap.size A0 up) (hL : ObjsAt w A1 l) (hc1 : l.length ≤ c1) (hX : ActsAt w A2 acts) :
    Calls Tryd.prog 3 #[.slice A0 up.length c0, .slice A1 l.length c1, .slice A2 acts.length c2] w fun e w' => e = .returned (.bool true) ∧ Grew w w' := by
  have HE := hid hE
  have HU := hid hU
  have HA := hid hL
  have HXs := hid hX
  have HN1 : Hid (∀ W, Grew w W → Calls Tryd.prog 9 #[.iface 77 (.int .i64 1)] W fun e w' => e = .returned (.int .i64 1) ∧ Grew W w') := hid (fun W hW => num_c 1 W (hE.grew hW))
  clear hE hU hL hX
  go_enter Tryd.func3, Tryd.ntmps3
  go_wp2_with fail
  refine (get_nil 0 w).mono ?_
  rintro e w1 ⟨rfl, hg1⟩
  unfold zeroO
  have HG1 := hid hg1
  clear hg1
  go_upto_region 3 with fail
  have HG2 := hid (HG1.out.alloc (.cells #[.int .i64 0, .int .i64 0, .slice none 0 0, .string ⟨#[]⟩] 28))
  generalize w1.alloc (.cells #[.int .i64 0, .int .i64 0, .slice none 0 0, .string ⟨#[]⟩] 28) = w2 at *
  clear HG1
  go_wp2_with fail
  refine (hash_nil 0 w2).mono ?_
  rintro e w3 ⟨rfl, hg3⟩
  have HG3 := hid (HG2.out.trans hg3)
  clear hg3 HG2
  go_wp2_with fail
  refine (add_nil w3).mono ?_
  rintro e w4 ⟨rfl, hg4⟩
  have HG4 := hid (HG3.out.trans hg4)
  clear hg4 HG3
  go_wp2_with fail
  refine (HN1.out w4 HG4.out).mono ?_
  rintro e w5 ⟨rfl, hg5⟩
  have HG5 := hid (HG4.out.trans hg5)
  clear hg5 HG4
  go_wp2_with fail
  refine (HN1.out w5 HG5.out).mono ?_
  rintro e w6 ⟨rfl, hg6⟩
  have HG6 := hid (HG5.out.trans hg6)
  clear hg6 HG5
  go_wp2_with fail
  refine (HN1.out w6 HG6.out).mono ?_
  rintro e w7 ⟨rfl, hg7⟩
  have HG7 := hid (HG6.out.trans hg7)
  clear hg7 HG6
  go_wp2_with fail
  refine (put_nil w7).mono ?_
  rintro e w8 ⟨rfl, hg8⟩
  have HG8 := hid (HG7.out.trans hg8)
  clear hg8 HG7
  go_wp2_with fail
  refine (HN1.out w8 HG8.out).mono ?_
  rintro e w9 ⟨rfl, hg9⟩
  have HG9 := hid (HG8.out.trans hg9)
  clear hg9 HG8
  go_upto_region 7 with (go_at_call 11; refine (len_nil w9).mono ?_; rintro e w10 ⟨rfl, hg10⟩)
  have HG10 := hid (HG9.out.trans hg10)
  clear hg10 HG9
  have HBig := hid (bigObjs_c A1 c1 l w10 (HA.out.grew HG10.out))
  by_cases h20 : up.length ≤ 20
  · have g20 : ¬ (20 : Int) < (up.length : Int) := by omega
    cases hb : bigB (objs l)
    · rw [hb] at HBig
      have HFit := hid (fit_of hb)
      clear hb
      go_upto_region 9 with (go_at_call 12; refine HBig.out.mono ?_; rintro e w11 ⟨rfl, hg11⟩)
      have HG11 := hid (HG10.out.trans hg11)
      clear hg11 HBig HG10
      have hl60 : l.length ≤ 60 := by have h1 := HFit.out.1; rw [objs_len] at h1; exact h1
      go_wp2_with fail
      refine (giveObjs_c A1 c1 l w11 (HA.out.grew HG11.out) (fun v hv => by have := HFit.out.2.f _ (objs_mem hv); omega) (by omega)).mono ?_
      rintro e w12 ⟨vs, A3, c3, rfl, hvo, hv3, hg12⟩
      have HG12 := hid (HG11.out.trans hg12)
      have hlv : vs.length ≤ 1000 := by have h6 := congrArg List.length hvo; rw [objs_len, objs_len] at h6; omega
      have hnew := new_c A0 c0 up A3 c3 vs w12 h20 (HU.out.grew HG12.out) hv3 hlv
      rw [hvo] at hnew
      clear hv3 hvo hlv hg12 HG11
      go_wp2_with fail
      refine hnew.mono ?_
      intro e w13 hpost
      obtain ⟨sv, se, rfl, hnv, hg13⟩ := new_pair hpost
      have HNV := hid hnv
      have HG13 := hid (HG12.out.trans hg13)
      clear hpost hnv hg13 hnew
      obtain ⟨n, en⟩ : ∃ n, n = l.length := ⟨_, rfl⟩
      rw [← en] at hc1 hl60 ⊢
      have EN := hid en
      clear en
      go_upto_region 12 with fail
      go_loopw [16, 17, 18] (fun s16 s17 _ wr => ∃ (i : Nat) (m : Bool), s17 = .int .i64 ((i : Nat) : Int) ∧ s16 = .bool m ∧ i ≤ n ∧ Hid (m = ((objs l).take i).all (Ob.mayB up.length)) ∧ Hid (Grew w13 wr)) (fun _ s17 _ _ => n - (intOf s17).toNat)
      case atStart => exact ⟨0, true, rfl, rfl, Nat.zero_le _, hid rfl, hid (Grew.refl _)⟩
      case round =>
        obtain ⟨i, m, rfl, rfl, hi, HM, HR⟩ := hrel
        by_cases hlt : i < n
        · have f1 : (i : Int) < n := by omega
          obtain ⟨ad, z, rfl, hz, p0, p1, p2, p3, pl, hzo⟩ := ov_get HA.out (HG13.out.trans HR.out) (i := i) (by rw [← EN.out]; exact hlt)
          have hzl : z.o.f.length ≤ 1000 := by have h1 := HFit.out.2.f z.o (objs_mem (List.mem_of_getElem? hz)); omega
          have HMy := hid (rmayO_c up.length z wr hzo hzl)
          have HSub := hid (objs_sub (HA.out.grew (HG13.out.trans HR.out)) hz)
          have HMn := hid (show ((objs l).take (i + 1)).all (Ob.mayB up.length) = (m && Ob.mayB up.length z.o) by
            rw [List.take_add_one, objs_at hz, List.all_append, ← HM.out]; simp)
          have HGo := hid (fun W (hW : Grew wr W) cap => giveObjs_c (some (ad.add (i * 4))) cap [z] W (HSub.out.grew hW) (fun v hv => by obtain rfl := List.mem_singleton.1 hv; exact hzl) (by simp))
          clear hz hzo hzl
          obtain ⟨mb, emb⟩ : ∃ mb, mb = Ob.mayB up.length z.o := ⟨_, rfl⟩
          rw [← emb] at HMy HMn
          have EMB := hid emb
          clear emb
          obtain ⟨⟨zc, zl, zf, zb⟩, zA, zcap⟩ := z
          simp only at p0 p1 p2 p3 HMy HGo EMB
          generalize zf.length = zm at *
          go_wp2_with fail
          refine HMy.out.mono ?_
          rintro e w14 ⟨rfl, hg14⟩
          clear p0 p1 p2 p3 pl HMy
          go_wp2_with fail
          refine (HGo.out w14 hg14 (c1 - i)).mono ?_
          rintro e w15 ⟨us, A4, c4, rfl, hus, hu4, hg15⟩
          obtain ⟨u, rfl, huo⟩ := objs_single hus
          obtain ⟨ad4, u', rfl, hu', r0, r1, r2, r3, rl, hok⟩ := ov_get hu4 (Grew.refl w15) (i := 0) (by simp)
          obtain rfl : u = u' := by simpa using hu'
          have HMy2 := hid (may_c up.length u w15 hok)
          have huo2 : Ob.mayB up.length u.o = mb := by rw [huo]; exact EMB.out.symm
          rw [huo2] at HMy2
          clear huo2
          have HR15 := hid ((HR.out.trans hg14).trans hg15)
          rw [Nat.zero_mul, add_zero] at r0 r1 r2 r3
          clear hus hu4 hu' hok huo hg14 hg15 HGo HSub
          obtain ⟨⟨xc, xl, xf, xb⟩, xA, xcap⟩ := u
          simp only [List.length_cons, List.length_nil, Nat.zero_add] at r0 r1 r2 r3 HMy2 ⊢
          generalize xf.length = xm at *
          go_wp2_with fail
          refine HMy2.out.mono ?_
          rintro e w16 ⟨rfl, hg16⟩
          have HR16 := hid (HR15.out.trans hg16)
          have HMn2 := hid (show (m && mb) = ((objs l).take (i + 1)).all (Ob.mayB up.length) from HMn.out.symm)
          clear r0 r1 r2 r3 rl hg16 HMy2 HMn EMB
          cases m <;> cases mb
          all_goals
            go_wp2_with fail
            go_round
            case rel => exact ⟨i + 1, _, by go_num, rfl, by omega, HMn2, HR16⟩
            case measure => simp [intOf]; omega
        · have hin : i = n := by omega
          subst hin
          have HMa := hid (show m = (objs l).all (Ob.mayB up.length) by rw [HM.out, List.take_of_length_le (by rw [objs_len, ← EN.out]; exact Nat.le_refl _)])
          have HG14 := hid (HG13.out.trans HR.out)
          have HVm := hid (rmay_c A0 c0 up wr h20 (HU.out.grew HG14.out))
          rw [La.rmay_valid HU.out.1] at HVm
          obtain ⟨vb, evb⟩ : ∃ vb, vb = La.valid up := ⟨_, rfl⟩
          rw [← evb] at HVm
          have EVB := hid evb
          clear evb HM
          cases vb
          · obtain ⟨rfl, rfl⟩ := HNV.out.1 EVB.out.symm
            have hN7 : Calls Tryd.prog 9 #[.iface 77 (.int .i64 7)] wr fun e w' => e = .returned (.int .i64 7) ∧ Grew wr w' := num_c 7 wr (HE.out.grew HG14.out)
            have HN7 := hid hN7
            clear hN7
            go_wp2_with (first | (go_at_call 18; with_reducible refine HVm.out.mono ?_; rintro e w20 ⟨rfl, hw2⟩; have hw3 := hw2.symm; subst hw3) | (go_at_call 9; with_reducible refine HN7.out.mono ?_; rintro e w21 ⟨rfl, hg21⟩) | (go_at_call 13; refine (sure_c w21 (HE.out.grew (HG14.out.trans hg21))).mono ?_; rintro e w22 ⟨rfl, hg22⟩))
            go_ret
            exact ⟨rfl, (HG14.out.trans hg21).trans hg22⟩
          · cases m
            · obtain ⟨rfl, rfl⟩ := HNV.out.2.1 EVB.out.symm HMa.out.symm
              have HN2 := hid (HN1.out wr HG14.out)
              go_wp2_with (first | (go_at_call 18; with_reducible refine HVm.out.mono ?_; rintro e w20 ⟨rfl, hw2⟩; have hw3 := hw2.symm; subst hw3) | (go_at_call 9; with_reducible refine HN2.out.mono ?_; rintro e w21 ⟨rfl, hg21⟩) | (go_at_call 13; refine (sure_c w21 (HE.out.grew (HG14.out.trans hg21))).mono ?_; rintro e w22 ⟨rfl, hg22⟩))
              go_ret
              exact ⟨rfl, (HG14.out.trans hg21).trans hg22⟩
            · obtain ⟨s, rfl, rfl, hs, hsu, hsl⟩ := HNV.out.2.2 EVB.out.symm HMa.out.symm
              have HS := hid (hs.grew HR.out)
              have HSu := hid hsu
              have HSl := hid hsl
              have HBw := hid (show w.heap.size ≤ w12.heap.size from HG12.out.below.size)
              obtain ⟨sg, esg⟩ : ∃ sg, sg = s.g := ⟨_, rfl⟩
              rw [← esg]
              have ESG := hid esg
              clear hs hsu hsl esg HNV
              have HSrc := hid (HA.out.grew HG14.out)
              have hsl : (l.flatMap ovF).length = i * 4 := by rw [flatMap_length ovF_len, ← EN.out]
              have hso : ∀ u ∈ l.flatMap ovF, u.oneCell' = true := fun u hu => by
                obtain ⟨v, _, h⟩ := List.mem_flatMap.1 hu
                exact ovF_one v u h
              have hsA : A1 = none → i = 0 := fun e => by
                rcases Nat.eq_zero_or_pos i with h0 | h0
                · exact h0
                · obtain ⟨ad, e2, _⟩ := HSrc.out.cells (by rw [← EN.out]; exact h0)
                  rw [e] at e2; cases e2
              have hsx : ∀ ad, A1 = some ad → ∀ j u, (l.flatMap ovF)[j]? = some u → (wr.alloc (.cells #[] 52)).cell? (ad.add j) = some u := fun ad e j u hu => by
                have h0 : 0 < l.length := by
                  have h1 := (List.getElem?_eq_some_iff.1 hu).1
                  rw [hsl] at h1
                  rw [← EN.out]; omega
                obtain ⟨ad', e2, hb, hc⟩ := HSrc.out.cells h0
                rw [e] at e2
                cases e2
                rw [World.cell?_alloc_lt _ _ _ (by rw [block_add]; exact hb)]
                exact flat_cell (by decide) ovF_len hc j u hu
              have HSrcs := hid (And.intro hsl (And.intro hso (And.intro hsA hsx)))
              have HB12 := hid (show w12.heap.size ≤ wr.heap.size from (Nat.le_trans HS.out.low (Nat.le_of_lt HS.out.blk.lt)))
              clear hsl hso hsA hsx
              go_wp2_with (first | (go_at_call 18; with_reducible refine HVm.out.mono ?_; rintro e w20 ⟨rfl, hw2⟩; have hw3 := hw2.symm; subst hw3) | (at_builtin; refine wpList_catR (.agg #[.int .i64 0, .int .i64 0, .slice none 0 0, .string ⟨#[]⟩]) 4 56 (wr.alloc (.cells #[] 52)) rfl _ _ 23 52 rfl Tryd.underlying23 robj_info rfl (by decide) w12.heap.size (by rw [World.size_alloc]; have h1 := HB12.out; omega) (some ⟨wr.heap.size, 0, none⟩) 0 0 [] rfl (Row.made HB12.out) A1 i c1 (l.flatMap ovF) rfl HSrcs.out.1 HSrcs.out.2.1 HSrcs.out.2.2.1 HSrcs.out.2.2.2 (by omega) (by omega) ?_; intro A8 k8 w21 hR8 hK8 hT8; have HR8 := hid hR8; have HK8 := hid hK8; have HT8 := hid hT8; clear hR8 hK8 hT8))
              have hg21 : Grew wr w21 := HK8.out.grew ((Grew.refl wr).alloc _) (fun k hk => by
                obtain ⟨ad, e1, e2⟩ := hk
                cases e1
                simp only at e2
                omega)
              have HRun : Hid (RunAt w w21 w12.heap.size up s A8 k8 l) := hid (by
                have hat : ∀ k, AtRow A8 k → wr.heap.size ≤ k := fun k hk => by
                  rcases rowto_at HT8.out hk with ⟨ad, e1, e2⟩ | h1
                  · cases e1
                    simp only at e2
                    omega
                  · rw [World.size_alloc] at h1; omega
                have hlow : ∀ v ∈ l, 0 < v.o.f.length → ∀ ad, v.A = some ad → ad.block < w12.heap.size := fun v hv h0 ad e => by
                  have h1 := (HA.out.ok v hv).blk h0 ad e
                  have h2 := HBw.out
                  omega
                have hrow := HR8.out
                rw [List.nil_append, Nat.zero_add, EN.out] at hrow
                refine ⟨HS.out.grew hg21, ⟨hrow, fun v hv => (HSrc.out.ok v hv).grew hg21, fun v hv h0 ad e hk => ?_⟩, HSl.out, fun k ho hk => ?_, fun v hv h0 ad e ho => ?_, fun ad e hk => ?_, HSu.out, HBw.out, HG14.out.trans hg21⟩
                · have h1 := hlow v hv h0 ad e
                  have h2 := hat _ hk
                  have h3 := HB12.out
                  omega
                · have h1 := (HS.out.owns ho).2
                  have h2 := hat k hk
                  omega
                · have h1 := hlow v hv h0 ad e
                  have h2 := (HS.out.owns ho).1
                  omega
                · obtain ⟨ad', e1, e2, _⟩ := HS.out.up.2 (La.valid_spec HS.out.valid).1
                  rw [e] at e1
                  cases e1
                  have h2 := hat _ hk
                  omega)
              have hESG := ESG.out.symm
              clear hg21 HR8 HK8 HT8 HSrc HSrcs HS HSu HSl HMa HVm EVB HR
              obtain ⟨an, ean⟩ : ∃ an, an = acts.length := ⟨_, rfl⟩
              rw [← ean]
              have EAN := hid ean
              have HESG := hid hESG
              clear ean hESG ESG
              go_loopw [19, 20, 21, 22, 23, 24, 25] (fun s19 s20 _ _ _ _ _ wr => ∃ (a : Nat) (s2 : SV) (Al : Option Addr) (cl : Nat) (lv : List OV) (ln : Nat), s20 = .int .i64 ((a : Nat) : Int) ∧ a ≤ 60 ∧ s19 = .slice Al ln cl ∧ ln ≤ 60 + a ∧ Hid (lv.length = ln) ∧ Hid (RunAt w wr w12.heap.size up s2 Al cl lv) ∧ Hid (s2.g = sg)) (fun _ s20 _ _ _ _ _ _ => 60 - (intOf s20).toNat)
              case atStart => exact ⟨0, s, A8, k8, l, i, rfl, Nat.zero_le _, rfl, by omega, hid EN.out.symm, HRun, HESG⟩
              case round =>
                obtain ⟨a, s2, Al, cl, lv, ln, rfl, ha6, rfl, hln, HLn, HRn, HSg⟩ := hrel
                clear HRun HESG
                by_cases hgo : a < an ∧ a < 60
                · have f1 : (a : Int) < (an : Int) := by omega
                  have f2 : (a : Int) < 60 := by omega
                  obtain ⟨ad, x, eA2, hx, hcells, hxb, hxo⟩ := act_get HXs.out HRn.out.grew (i := a) (by rw [← EAN.out]; exact hgo.1)
                  have p0 := hcells 0 _ rfl
                  have p1 := hcells 1 _ rfl
                  have p2 := hcells 2 _ rfl
                  have p3 := hcells 3 _ rfl
                  have p4 := hcells 4 _ rfl
                  have p5 := hcells 5 _ rfl
                  have p6 := hcells 6 _ rfl
                  have p7 := hcells 7 _ rfl
                  have p8 := hcells 8 _ rfl
                  have p9 := hcells 9 _ rfl
                  have p10 := hcells 10 _ rfl
                  rw [add_zero] at p0
                  rw [add_pos (by decide), block_add] at p1 p2 p3 p4 p5 p6 p7 p8 p9 p10
                  have HXo := hid hxo
                  have HXw := hid (HXs.out.ok x (List.mem_of_getElem? hx))
                  clear hcells hx hxo
                  obtain ⟨pb, ⟨⟨oc, ol, of, ob⟩, oA, ocap⟩, xi, xk, xu, ⟨vk, vn, vl⟩⟩ := x
                  simp only at p0 p1 p2 p3 p4 p5 p6 p7 p8 p9 p10 HXo HXw
                  obtain ⟨om, eom⟩ : ∃ om, om = of.length := ⟨_, rfl⟩
                  rw [← eom] at p3
                  have EOM := hid eom
                  clear eom
                  rw [eA2]
                  go_upto_region 29 with fail
                  have hgn := (Grew.refl wr).alloc (.cells #[.bool pb, .int .i64 oc, .int .i64 ol, .slice oA om ocap, .string ob, .int .i64 xi, .int .i64 xk, .int .i64 xu, .int .u8 ((vk : Nat) : Int), .int .i64 vn, .int .i64 vl] 57)
                  have hbn := Blk.new wr 57 #[.bool pb, .int .i64 oc, .int .i64 ol, .slice oA om ocap, .string ob, .int .i64 xi, .int .i64 xk, .int .i64 xu, .int .u8 ((vk : Nat) : Int), .int .i64 vn, .int .i64 vl]
                  have HR1 := hid (HRn.out.more hgn)
                  have HGa := hid (fun k (ho : Owns s2 k) => (HRn.out.st.owns ho).2)
                  clear p0 p1 p2 p3 p4 p5 p6 p7 p8 p9 p10 hxb
                  generalize wr.alloc (.cells #[.bool pb, .int .i64 oc, .int .i64 ol, .slice oA om ocap, .string ob, .int .i64 xi, .int .i64 xk, .int .i64 xu, .int .u8 ((vk : Nat) : Int), .int .i64 vn, .int .i64 vl] 57) = v1 at *
                  generalize wr.heap.size = ga at *
                  have HB1 := hid hbn
                  clear hgn hbn HRn HXo
                  have d8 := fun (y : After v1) => (HB1.out.grew y.grew).cell 8
                  have d9 := fun (y : After v1) => (HB1.out.grew y.grew).cell 9
                  have d10 := fun (y : After v1) => (HB1.out.grew y.grew).cell 10
                  have dl := fun (y : After v1) => (HB1.out.grew y.grew).lt
                  simp only [List.getElem?_toArray, List.getElem?_cons_zero, List.getElem?_cons_succ] at d8 d9 d10
                  have HVa := hid (fun W => value_c up.length ⟨vk, vn, vl⟩ W)
                  have HVb := hid (fun W => rvalue_c up.length ⟨vk, vn, vl⟩ W)
                  obtain ⟨bv, ebv⟩ : ∃ bv, bv = Ob.valueB up.length ⟨vk, vn, vl⟩ := ⟨_, rfl⟩
                  rw [← ebv] at HVa HVb
                  clear ebv
                  refine wp_region_grew_from (w0 := v1) (Grew.refl v1) (by kernel_rfl) (by kernel_rfl) ?_
                  repeat (go_big_quiet_step (fail))
                  go_big_quiet_step ((go_at_call 19; exact Calls.grew (After.grew _) (HVa.out _)))
                  repeat (go_big_quiet_step (fail))
                  go_big_quiet_step ((go_at_call 20; exact Calls.grew (After.grew _) (HVb.out _)))
                  repeat (go_big_quiet_step (fail))
                  refine wpQuiet_nil ?_
                  rintro _ ⟨y, rfl⟩
                  have HR2 := hid (HR1.out.more y.grew)
                  have HB2 := hid (HB1.out.grew y.grew)
                  generalize y.w = v2 at *
                  clear d8 d9 d10 dl HVa HVb HB1 HR1
                  have b0 := HB2.out.cell 0
                  have b1 := HB2.out.cell 1
                  have b2 := HB2.out.cell 2
                  have b3 := HB2.out.cell 3
                  have b4 := HB2.out.cell 4
                  have bl := HB2.out.lt
                  simp only [List.getElem?_toArray, List.getElem?_cons_zero, List.getElem?_cons_succ] at b0 b1 b2 b3 b4
                  have hbb : (bv != bv) = false := by simp
                  go_wp2_with fail
                  have hgn := (Grew.refl v2).alloc (.cells #[.int .i64 oc, .int .i64 ol, .slice oA om ocap, .string ob] 52)
                  have hbn := Blk.new v2 52 #[.int .i64 oc, .int .i64 ol, .slice oA om ocap, .string ob]
                  have HR3 := hid (HR2.out.more hgn)
                  have HB3 := hid (HB2.out.grew hgn)
                  generalize v2.alloc (.cells #[.int .i64 oc, .int .i64 ol, .slice oA om ocap, .string ob] 52) = v3 at *
                  generalize v2.heap.size = gb at *
                  have hone : ObjsAt v3 (some ⟨gb, 0, none⟩) [⟨⟨oc, ol, of, ob⟩, oA, ocap⟩] := objs_one (x := ⟨⟨oc, ol, of, ob⟩, oA, ocap⟩) (by unfold ovF; rw [← EOM.out]; exact hbn) (HXw.out.o.grew HR3.out.grew)
                  have HBi := hid (bigObjs_c (some ⟨gb, 0, none⟩) 1 [⟨⟨oc, ol, of, ob⟩, oA, ocap⟩] v3 hone)
                  obtain ⟨bg, ebg⟩ : ∃ bg, bg = bigB (objs [⟨⟨oc, ol, of, ob⟩, oA, ocap⟩]) := ⟨_, rfl⟩
                  rw [← ebg] at HBi
                  have EBG := hid ebg
                  clear ebg hone hgn hbn b0 b1 b2 b3 b4 bl HB2 HR2 hbb
                  refine HBi.out.mono ?_
                  rintro e v4 ⟨rfl, hg4⟩
                  have HR4 := hid (HR3.out.more hg4)
                  have HB4 := hid (HB3.out.grew hg4)
                  clear hg4 HBi HR3 HB3
                  cases bg
                  · have hfo : om ≤ 300 := by
                      rw [EOM.out]
                      exact (fit_of EBG.out.symm).2.f ⟨oc, ol, of, ob⟩ (by simp [objs])
                    have b0 := HB4.out.cell 0
                    have b1 := HB4.out.cell 1
                    have b2 := HB4.out.cell 2
                    have b3 := HB4.out.cell 3
                    have b4 := HB4.out.cell 4
                    have b5 := HB4.out.cell 5
                    have b6 := HB4.out.cell 6
                    have b7 := HB4.out.cell 7
                    have b8 := HB4.out.cell 8
                    have b9 := HB4.out.cell 9
                    have b10 := HB4.out.cell 10
                    have bl := HB4.out.lt
                    simp only [List.getElem?_toArray, List.getElem?_cons_zero, List.getElem?_cons_succ] at b0 b1 b2 b3 b4 b5 b6 b7 b8 b9 b10
                    cases pb
                    · go_upto_region 37 with fail
                      obtain ⟨mb, emb⟩ : ∃ mb, mb = Ob.mayB up.length ⟨oc, ol, of, ob⟩ := ⟨_, rfl⟩
                      have EMB := hid emb
                      clear emb b0 b1 b2 b3 b4 b5 b6 b7 b8 b9 b10 bl
                      have HJ0 : Hid (AdJ v4 w12.heap.size s2 ga #[.bool false, .int .i64 oc, .int .i64 ol, .slice oA om ocap, .string ob, .int .i64 xi, .int .i64 xk, .int .i64 xu, .int .u8 ((vk : Nat) : Int), .int .i64 vn, .int .i64 vl] (fun _ => false) v4) := hid ⟨fun _ => ⟨HR4.out.st, Grew.refl _⟩, HB4.out⟩
                      have HOw := hid (fun k (ho : Owns s2 k) => (HR4.out.st.owns ho).2)
                      refine wp_region_facts4 (w0 := v4) v4 20 20 [215, 216, 217, 218, 219, 220, 221, 222, 223, 224, 225, 226, 227, 228, 229, 214, 230, 231, 24, 25] [] (AdF v4 w12.heap.size s2 sg ga ⟨oc, ol, of, ob⟩ oA om ocap ln mb) (Kept (Owns s2)) (AdR s2) (AdJ v4 w12.heap.size s2 ga #[.bool false, .int .i64 oc, .int .i64 ol, .slice oA om ocap, .string ob, .int .i64 xi, .int .i64 xk, .int .i64 xu, .int .u8 ((vk : Nat) : Int), .int .i64 vn, .int .i64 vl]) (May.kept _) AdR.zero AdR.refl (by kernel_rfl) (by kernel_rfl) (Kept.refl _ _).drew (HJ0.out.grew (Grew.refl _).drew) (fun a b v w w' _ _ hab _ h hr => AdF.stable HOw.out a b v w w' hab h hr) ?_ ?_
                      · repeat' (first | exact trivial | apply And.intro)
                        all_goals
                          intro a w' fl hgk hJ hfi hdep hs hA
                          have e14 := hs.eval 14 (by decide) (v := .pointer (some ⟨sg, 0, none⟩)) rfl
                          have e21 := hs.eval 21 (by decide) (v := .pointer (some ⟨ga, 0, none⟩)) rfl
                          have HJ1 := hid hJ
                          have HFi := hid hfi
                          have b1 := hJ.2.cell 1
                          have b2 := hJ.2.cell 2
                          have b3 := hJ.2.cell 3
                          have b4 := hJ.2.cell 4
                          have bl := hJ.2.lt
                          simp only [List.getElem?_toArray, List.getElem?_cons_zero, List.getElem?_cons_succ] at b1 b2 b3 b4
                          have HGK := hid hgk
                          clear hs hgk hJ hfi hdep
                          simp only [Ahead, Region.binds, slotOf, AdF, List.getD_cons_succ, List.getD_cons_zero, forall_const, and_true] at hA
                          simp only [wantedD, if_true]
                          unfold Oper.wp
                          have ec : ∀ v, a.eval (.const v) = v := fun _ => rfl
                          generalize hfe : a.eval = fe at *
                          have ef : ∀ k, fe (.func k) = Act.eval ⟨#[], []⟩ (.func k) := fun k => by rw [← hfe]; rfl
                          clear hfe
                        · go_simp
                          exact Gives3.of rfl (AdR.refl 0 _) rfl (HJ1.out.pure 0)
                        · go_simp
                          exact Gives3.of rfl (AdR.refl 1 _) rfl (HJ1.out.pure 1)
                        · go_simp
                          exact Gives3.of rfl (AdR.refl 2 _) rfl (HJ1.out.pure 2)
                        · go_simp
                          exact Gives3.of rfl (AdR.refl 3 _) rfl (HJ1.out.pure 3)
                        · go_simp
                          exact Gives3.of rfl (AdR.refl 4 _) rfl (HJ1.out.pure 4)
                        · go_simp
                          exact Gives3.of rfl (AdR.refl 5 _) rfl (HJ1.out.pure 5)
                        · go_simp
                          exact Gives3.of rfl (AdR.refl 6 _) rfl (HJ1.out.pure 6)
                        · go_simp
                          exact Gives3.of rfl (AdR.refl 7 _) rfl (HJ1.out.pure 7)
                        · go_simp
                          exact Gives3.of rfl (AdR.refl 8 _) rfl (HJ1.out.pure 8)
                        · go_simp
                          exact Gives3.of rfl (AdR.refl 9 _) rfl (HJ1.out.pure 9)
                        · have hvals : ValsAt w' oA of := (HXw.out.o.f.grew HR4.out.grew).kept HGK.out (fun h0 ad e ho => by
                            have h1 := HXw.out.o.blk h0 ad e
                            have h2 := (HR4.out.st.owns ho).1
                            have h3 := HR4.out.low
                            omega)
                          have hgv := giveVals_c oA ocap of w' hvals (by rw [← EOM.out]; omega)
                          simp only [← EOM.out] at hgv
                          have HGv := hid hgv
                          clear hgv hvals
                          go_simp
                          refine HGv.out.mono ?_
                          rintro e w6 ⟨A2, c2, rfl, hr, hg⟩
                          exact Gives3.of rfl (AdR.grew (j := 10) hg) ⟨A2, c2, by rw [EOM.out], by rw [EOM.out]; exact hr.low HGK.out.size⟩ ((HJ1.out.grew hg).pure 10)
                        · go_simp
                          exact Gives3.of rfl (AdR.refl 11 _) rfl (HJ1.out.pure 11)
                        · go_simp
                          exact Gives3.of rfl (AdR.refl 12 _) rfl (HJ1.out.pure 12)
                        · go_simp
                          exact Gives3.of rfl (AdR.refl 13 _) rfl (HJ1.out.pure 13)
                        · obtain ⟨h1, h2, h3, ⟨A2, c2, h4, hrow⟩, h5, _⟩ := hA
                          have hst := HJ1.out.1 HFi.out
                          have hok : OvOk w' ⟨⟨oc, ol, of, ob⟩, A2, c2⟩ := ⟨row_vals hrow EOM.out HXw.out.o.f.1, HXw.out.o.cls, HXw.out.o.lev, by show of.length ≤ c2; rw [← EOM.out]; exact hrow.cases.2.1⟩
                          have hadd := addM_c s2 w12.heap.size ⟨⟨oc, ol, of, ob⟩, A2, c2⟩ w' hst.1 hok (fun _ ad e ho => by
                            have q1 := Row.at_base hrow ad.block ⟨ad, e, rfl⟩
                            have q2 := HOw.out _ ho
                            omega) mb (by rw [HR4.out.up]; exact EMB.out.symm) (by rw [HR4.out.len, HLn.out]; omega)
                          rw [HSg.out] at hadd
                          simp only [← EOM.out, AddPost, HR4.out.len, HLn.out] at hadd
                          have HAd := hid hadd
                          have HSt := hid hst
                          clear hadd hok hst hrow
                          go_simp
                          refine HAd.out.mono ?_
                          intro e w6 hp
                          cases mb
                          · rw [if_neg (by decide)] at hp
                            obtain ⟨rfl, hg⟩ := hp
                            exact Gives3.of rfl (AdR.grew (j := 14) hg) ⟨rfl, HSt.out.2.trans hg⟩ ((HJ1.out.grew hg).pure 14)
                          · rw [if_pos rfl] at hp
                            obtain ⟨rfl, hin⟩ := hp
                            obtain ⟨s3, q1, q2, q3, q4, q5, q6, q7⟩ := hin
                            exact Gives3.of rfl (show AdR s2 14 w' w6 by unfold AdR; rw [if_pos rfl]; exact q6) ⟨rfl, AddIn.from ⟨s3, q1, q2, q3, q4, q5, q6, q7⟩ HSt.out.2⟩ (HJ1.out.app q6 (fun ho => by have := HGa.out _ ho; omega))
                        · cases mb
                          · have hv : fe (.tmp 229) = .tuple #[.int .i64 0, errVal 1] := by first | exact hA.1 | exact hA.1.1
                            go_simp
                            exact Gives3.of rfl (AdR.refl 15 _) rfl (HJ1.out.pure 15)
                          · have hv : fe (.tmp 229) = .tuple #[.int .i64 ((ln : Nat) : Int), .nilIface] := by first | exact hA.1 | exact hA.1.1
                            go_simp
                            exact Gives3.of rfl (AdR.refl 15 _) rfl (HJ1.out.pure 15)
                        · cases mb
                          · have hv : fe (.tmp 214) = .tuple #[.int .i64 0, errVal 1] := by first | exact hA | exact hA.1
                            go_simp
                            exact Gives3.of rfl (AdR.refl 16 _) rfl (HJ1.out.pure 16)
                          · have hv : fe (.tmp 214) = .tuple #[.int .i64 ((ln : Nat) : Int), .nilIface] := by first | exact hA | exact hA.1
                            go_simp
                            exact Gives3.of rfl (AdR.refl 16 _) rfl (HJ1.out.pure 16)
                        · cases mb
                          · have hv : fe (.tmp 214) = .tuple #[.int .i64 0, errVal 1] := by first | exact hA | exact hA.1
                            go_simp
                            exact Gives3.of rfl (AdR.refl 17 _) rfl (HJ1.out.pure 17)
                          · have hv : fe (.tmp 214) = .tuple #[.int .i64 ((ln : Nat) : Int), .nilIface] := by first | exact hA | exact hA.1
                            go_simp
                            exact Gives3.of rfl (AdR.refl 17 _) rfl (HJ1.out.pure 17)
                        · cases mb
                          · have hv : fe (.tmp 230) = .int .i64 0 := by first | exact hA.1 | exact hA
                            go_simp
                            exact Gives3.of rfl (AdR.refl 18 _) rfl (HJ1.out.pure 18)
                          · have hv : fe (.tmp 230) = .int .i64 ((ln : Nat) : Int) := by first | exact hA.1 | exact hA
                            go_simp
                            exact Gives3.of rfl (AdR.refl 18 _) rfl (HJ1.out.pure 18)
                        · cases mb
                          · have hv : fe (.tmp 231) = errVal 1 := by first | exact hA.1 | exact hA
                            go_simp
                            exact Gives3.of rfl (AdR.refl 19 _) rfl (HJ1.out.pure 19)
                          · have hv : fe (.tmp 231) = .nilIface := by first | exact hA.1 | exact hA
                            go_simp
                            exact Gives3.of rfl (AdR.refl 19 _) rfl (HJ1.out.pure 19)
                      · intro a5 w5 hgk hs hf hJ _
                        have h14 := hf 14 (by decide)
                        have h18 := hf 18 (by decide)
                        have h19 := hf 19 (by decide)
                        simp only [slotOf, AdF, List.getD_cons_succ, List.getD_cons_zero] at h14 h18 h19
                        obtain ⟨fn2, rfl, hft⟩ := hs.put
                        rw [hft] at h14 h18 h19
                        have HB5 := hid hJ.2
                        have b1 := hJ.2.cell 1
                        have b2 := hJ.2.cell 2
                        have b3 := hJ.2.cell 3
                        have b4 := hJ.2.cell 4
                        have bl := hJ.2.lt
                        simp only [List.getElem?_toArray, List.getElem?_cons_zero, List.getElem?_cons_succ] at b1 b2 b3 b4
                        clear hf hft hs hgk hJ HJ0
                        cases mb
                        · rw [if_neg (by decide)] at h14 h18 h19
                          have HR5 := hid (HR4.out.more h14.2)
                          simp only [List.drop_succ_cons, List.drop_zero, putAll, List.foldl_cons, List.foldl_nil, Act.put, List.setIfInBounds_toArray, List.set_cons_succ, List.set_cons_zero, h18, h19]
                          clear h14 h18 h19
                          have hmy := rmayO_c up.length ⟨⟨oc, ol, of, ob⟩, oA, ocap⟩ w5 (HXw.out.o.grew HR5.out.grew) (by show of.length ≤ 1000; rw [← EOM.out]; omega)
                          simp only [← EOM.out, ← EMB.out] at hmy
                          go_wp2_with fail
                          refine hmy.mono ?_
                          rintro e w6 ⟨rfl, hg6⟩
                          have HR6 := hid (HR5.out.more hg6)
                          clear hmy hg6 HR5 b1 b2 b3 b4 bl
                          go_wp2_with fail
                          refine (num_c 1 w6 (HE.out.grew HR6.out.grew)).mono ?_
                          rintro e w7 ⟨rfl, hg7⟩
                          have HR7 := hid (HR6.out.more hg7)
                          have hLen := len_c s2 w12.heap.size w7 HR7.out.st
                          rw [HSg.out, HR7.out.len, HLn.out] at hLen
                          have hll : (((ln : Nat) : Int) != ((ln : Nat) : Int)) = false := by simp
                          clear hg7 HR6
                          go_wp2_with fail
                          refine hLen.mono ?_
                          rintro e w8 ⟨rfl, hg8⟩
                          have HR8 := hid (HR7.out.more hg8)
                          clear hLen hg8 HR7
                          go_wp2_with fail
                          go_round
                          case rel => exact ⟨a + 1, s2, Al, cl, lv, ln, by go_num, by omega, rfl, by omega, HLn, HR8, HSg⟩
                          case measure => simp [intOf]; omega
                        · rw [if_pos rfl] at h14 h18 h19
                          have HIn := hid h14.2
                          simp only [List.drop_succ_cons, List.drop_zero, putAll, List.foldl_cons, List.foldl_nil, Act.put, List.setIfInBounds_toArray, List.set_cons_succ, List.set_cons_zero, h18, h19]
                          clear h14 h18 h19
                          have HKp : Hid (Kept (Owns s2) v4 w5) := hid (by obtain ⟨_, _, _, _, _, _, q6, _⟩ := HIn.out; exact q6)
                          have HG5 := hid (own_grew HR4.out.st HR4.out.low HR4.out.grew HKp.out)
                          have hmy := rmayO_c up.length ⟨⟨oc, ol, of, ob⟩, oA, ocap⟩ w5 (HXw.out.o.grew HG5.out) (by show of.length ≤ 1000; rw [← EOM.out]; omega)
                          simp only [← EOM.out, ← EMB.out] at hmy
                          have hll : (((ln : Nat) : Int) != ((ln : Nat) : Int)) = false := by simp
                          go_wp2_with fail
                          refine hmy.mono ?_
                          rintro e w6 ⟨rfl, hg6⟩
                          have HG6 := hid hg6
                          have HB6 := hid (HB5.out.grew hg6)
                          clear hmy hg6 b1 b2 b3 b4 bl
                          have b1 := HB6.out.cell 1
                          have b2 := HB6.out.cell 2
                          have b3 := HB6.out.cell 3
                          have b4 := HB6.out.cell 4
                          have bl := HB6.out.lt
                          simp only [List.getElem?_toArray, List.getElem?_cons_zero, List.getElem?_cons_succ] at b1 b2 b3 b4
                          have HOwn := hid ((HR4.out.own.kept HKp.out (fun k ha ho => HR4.out.sep k ho ha) HR4.out.fsep).grew HG6.out)
                          have HBs := hid (show w12.heap.size ≤ w6.heap.size from Nat.le_trans (Nat.le_trans (Nat.le_trans HR4.out.st.low (Nat.le_of_lt HR4.out.st.blk.lt)) HKp.out.size) HG6.out.below.size)
                          go_wp2_with (at_builtin; refine wpList_pushS (.agg #[.int .i64 0, .int .i64 0, .slice none 0 0, .string ⟨#[]⟩]) 4 56 w6 rfl _ _ 23 52 rfl Tryd.underlying23 robj_info rfl (by decide) w12.heap.size HBs.out Al ln cl _ rfl (by have h1 := HOwn.out.row; rw [HLn.out] at h1; exact h1) _ rfl rfl [.int .i64 oc, .int .i64 ol, .slice oA om ocap, .string ob] rfl (by intro u hu; simp only [List.mem_cons, List.not_mem_nil, or_false] at hu; rcases hu with rfl | rfl | rfl | rfl <;> rfl) (by omega) (by omega) ?_; intro A9 k9 w9 hR9 hK9 hT9; have HR9 := hid hR9; have HK9 := hid hK9; have HT9 := hid hT9; clear hR9 hK9 hT9 b1 b2 b3 b4 bl)
                          have e8 : ovF ⟨⟨oc, ol, of, ob⟩, oA, ocap⟩ = [.int .i64 oc, .int .i64 ol, .slice oA om ocap, .string ob] := by unfold ovF; rw [← EOM.out]
                          have hrow9 : Row w9 w12.heap.size 52 4 A9 (lv.length + 1) k9 (lv.flatMap ovF ++ ovF ⟨⟨oc, ol, of, ob⟩, oA, ocap⟩) := by rw [HLn.out, e8]; exact HR9.out
                          obtain ⟨s3, hrun, hsg3⟩ := HR4.out.add (y := ⟨⟨oc, ol, of, ob⟩, oA, ocap⟩) HXw.out.o HIn.out HG6.out (fun _ _ _ => hrow9) HK9.out HT9.out
                          have HR10 := hid hrun
                          have HSg3 := hid (show s3.g = sg by rw [hsg3, HSg.out])
                          have HLn3 := hid (show (lv ++ [(⟨⟨oc, ol, of, ob⟩, oA, ocap⟩ : OV)]).length = ln + 1 by rw [List.length_append, HLn.out]; rfl)
                          have hLen := len_c s3 w12.heap.size w9 hrun.st
                          rw [HSg3.out, hrun.len, HLn3.out] at hLen
                          have hl2 : (((ln : Nat) : Int) + 1 != ((ln : Nat) : Int) + 1) = false := by simp
                          have hl3 : (((ln + 1 : Nat) : Int) != ((ln + 1 : Nat) : Int)) = false := by simp
                          clear hrow9 e8 hrun hsg3 HOwn HIn HR9 HK9 HT9 HR4
                          refine hLen.mono ?_
                          rintro e w10' ⟨rfl, hg10⟩
                          have HR11 := hid (HR10.out.more hg10)
                          clear hLen hg10 HR10
                          go_wp2_with fail
                          go_round
                          case rel => exact ⟨a + 1, s3, A9, k9, lv ++ [⟨⟨oc, ol, of, ob⟩, oA, ocap⟩], ln + 1, by go_num, by omega, rfl, by omega, HLn3, HR11, HSg3⟩
                          case measure => simp [intOf]; omega
                    · go_wp2_with fail
                      have hput := rput_c A0 c0 up Al cl lv xi xk xu ⟨vk, vn, vl⟩ v4 h20 (HU.out.grew HR4.out.grew) HR4.out.own.at (by rw [HLn.out]; omega) (fun v hv => by have h1 := (head_spec (HR4.out.may v hv)).2.2.2.2.1; omega) HXw.out.v
                      rw [HLn.out] at hput
                      have HPu := hid hput
                      clear hput
                      refine HPu.out.mono ?_
                      intro e v5 hrp
                      obtain ⟨Ap, np, cp, he, hg5⟩ := rput_shape hrp
                      have HRP := hid hrp
                      obtain ⟨pc, epc⟩ : ∃ pc, pc = Ob.putCode up (objs lv) xi xk xu ⟨vk, vn, vl⟩ := ⟨_, rfl⟩
                      rw [← epc] at he
                      have EPC := hid epc
                      clear epc
                      have HEe := hid he
                      rw [he]
                      clear hrp he HPu b0 b1 b2 b3 b4 b5 b6 b7 b8 b9 b10 bl
                      have HB5 := hid (HB4.out.grew hg5)
                      have b5 := HB5.out.cell 5
                      have b6 := HB5.out.cell 6
                      have b7 := HB5.out.cell 7
                      have b8 := HB5.out.cell 8
                      have b9 := HB5.out.cell 9
                      have b10 := HB5.out.cell 10
                      have bl := HB5.out.lt
                      simp only [List.getElem?_toArray, List.getElem?_cons_zero, List.getElem?_cons_succ] at b5 b6 b7 b8 b9 b10
                      have hpt := put_c s2 w12.heap.size xi xk xu ⟨vk, vn, vl⟩ v5 (HR4.out.st.grew hg5)
                      rw [HSg.out] at hpt
                      have HPt := hid hpt
                      clear hpt hg5
                      go_wp2_with fail
                      refine HPt.out.mono ?_
                      intro e2 v6 hpp
                      obtain ⟨s3, A3, c3, l3, he1, he2, hrun3, hsg3, hlen3⟩ := HR4.out.put HRP.out hpp
                      rw [HEe.out, ← EPC.out] at he1
                      simp only [Ending.returned.injEq, Value.tuple.injEq, Array.mk.injEq, List.cons.injEq, Value.slice.injEq, and_true] at he1
                      obtain ⟨rfl, rfl, rfl⟩ := he1
                      rw [← EPC.out] at he2
                      subst he2
                      have HR6 := hid hrun3
                      have HSg3 := hid (show s3.g = sg by rw [hsg3, HSg.out])
                      have HLn3 := hid (show l3.length = ln by rw [hlen3, HLn.out])
                      have hNum := num_c pc v6 (HE.out.grew hrun3.grew)
                      clear hpp hrun3 hsg3 hlen3 HPt HRP HEe HR4 b5 b6 b7 b8 b9 b10 bl HB5
                      go_wp2_with fail
                      refine hNum.mono ?_
                      rintro e v7 ⟨rfl, hg7⟩
                      have HR7 := hid (HR6.out.more hg7)
                      have hLen := len_c s3 w12.heap.size v7 HR7.out.st
                      rw [HSg3.out, HR7.out.len] at hLen
                      have hpp : ((pc : Int) != (pc : Int)) = false := by simp
                      have hll : (((l3.length : Nat) : Int) != ((l3.length : Nat) : Int)) = false := by simp
                      clear hNum hg7 HR6
                      go_wp2_with fail
                      refine hLen.mono ?_
                      rintro e v8 ⟨rfl, hg8⟩
                      have HR8 := hid (HR7.out.more hg8)
                      clear hLen hg8 HR7
                      go_wp2_with fail
                      go_round
                      case rel => exact ⟨a + 1, s3, Ap, cp, l3, l3.length, by go_num, by omega, rfl, by have h1 := HLn3.out; omega, hid rfl, HR8, HSg3⟩
                      case measure => simp [intOf]; omega
                  · go_wp2_with fail
                    go_round
                    case rel => exact ⟨a + 1, s2, Al, cl, lv, ln, by go_num, by omega, rfl, by omega, HLn, HR4, HSg⟩
                    case measure => simp [intOf]; omega
                · have hst : ¬ ((a : Int) < (an : Int)) ∨ ¬ ((a : Int) < 60) := by omega
                  have HSt := HRn.out.st
                  have HLo := hid (fun W (hW : Grew wr W) i x (hx : s2.its[i]? = some x) => get_c s2 w12.heap.size i x W (HSt.grew hW) hx)
                  have HHo := hid (fun W (hW : Grew wr W) i x (hx : s2.its[i]? = some x) => hash_c s2 w12.heap.size i x W (HSt.grew hW) hx)
                  have HGn := hid (fun W (hW : Grew wr W) => get_no s2 w12.heap.size ((ln : Nat) : Int) W (HSt.grew hW) (by rw [HRn.out.len, HLn.out]; simp [Ob.inB]))
                  have HHn := hid (fun W (hW : Grew wr W) => hash_no s2 w12.heap.size (-1) W (HSt.grew hW) (by simp [Ob.inB]))
                  rw [HSg.out] at HLo HHo HGn HHn
                  obtain ⟨wq, ewq⟩ : ∃ wq, wq = wr := ⟨_, rfl⟩
                  rw [← ewq] at HLo HHo HGn HHn HRn HSt
                  have HR0 : Hid (Grew wq wr) := hid (by rw [ewq]; exact Grew.refl _)
                  have hgo2 : (decide ((a : Int) < (an : Int)) && decide ((a : Int) < 60)) = false := by
                    rcases hst with h | h
                    · rw [decide_eq_false h, Bool.false_and]
                    · rw [decide_eq_false h, Bool.and_false]
                  clear HSt ewq
                  have hlb : ln ≤ 120 := by omega
                  have HGq := hid HRn.out.grew
                  clear hgo2 hst
                  by_cases h1 : a < an
                  · have f1 : (a : Int) < (an : Int) := by omega
                    have f2 : ¬ (a : Int) < 60 := by omega
                    clear h1 hgo
                    go_upto_region 47 with fail
                    go_loopw [26, 27, 28, 29, 30] (fun s26 _ _ _ _ wr => ∃ j : Nat, s26 = .int .i64 ((j : Nat) : Int) ∧ j ≤ ln ∧ Hid (Grew wq wr)) (fun s26 _ _ _ _ _ => ln - (intOf s26).toNat)
                    case atStart => exact ⟨0, rfl, Nat.zero_le _, HR0⟩
                    case round =>
                      obtain ⟨j, rfl, hj, HR⟩ := hrel
                      by_cases hlt : j < ln
                      · have g1 : (j : Int) < ln := by omega
                        obtain ⟨adl, z, rfl, hz, p0, p1, p2, p3, pl, hzo⟩ := ov_get HRn.out.own.at HR.out (i := j) (by rw [HLn.out]; exact hlt)
                        have hsome : (objsI s2.its)[j]? = some z.o := by rw [HRn.out.eq]; exact objs_at hz
                        obtain ⟨x, hx, hxo⟩ := objsI_get hsome
                        have hget := HLo.out wr HR.out j x hx
                        have HHa := hid (fun W (hW : Grew wr W) => HHo.out W (HR.out.trans hW) j x hx)
                        have hxh : x.h = Ob.hash (objs lv) j := by rw [HRn.out.st.hs j x hx, HRn.out.eq]
                        rw [hxh] at HHa
                        rw [hxo] at hget
                        have HRh := hid (fun W (hW : Grew wr W) => rhash_c (some adl) cl lv j W (HRn.out.own.at.grew (HR.out.trans hW)) (by rw [HLn.out]; omega) (by rw [HLn.out]; exact hlt))
                        rw [HLn.out] at HRh
                        have HZo := hid hzo
                        have HZl := hid (show z.o.f.length ≤ 1000 by have h1 := (head_spec (HRn.out.may z (List.mem_of_getElem? hz))).2.2.2.2.1; omega)
                        have P := hid (And.intro p0 (And.intro p1 (And.intro p2 (And.intro p3 pl))))
                        clear hz hx hxo hsome hxh hzo p0 p1 p2 p3 pl
                        go_wp2_with fail
                        refine hget.mono ?_
                        rintro e u1 ⟨bf, rfl, hbf, hbk, hg1⟩
                        have HIs := hid (fun W (hW : Grew u1 W) => isObj_c z.o (some ⟨bf, 0, none⟩) z.o.f.length z.A z.c W (show ValsAt W (some ⟨bf, 0, none⟩) z.o.f from ⟨HZo.out.f.1, fun _ => ⟨_, rfl, (hbk.grew hW).lt, fun i v hi q u hu => blk_row (hbk.grew hW) _ rfl _ _ (flat_at valF 3 valF_len _ i v hi q u hu)⟩⟩) (HZo.out.f.grew (hg1.trans hW)) HZl.out)
                        have HG1 := hid hg1
                        clear hbf hbk hg1 hget
                        obtain ⟨⟨zc, zl, zf, zb⟩, zA, zcap⟩ := z
                        simp only at P HIs ⊢
                        generalize zf.length = zm at *
                        go_upto_region 50 with fail
                        have hgn := (Grew.refl u1).alloc (.cells #[.int .i64 zc, .int .i64 zl, .slice (some ⟨bf, 0, none⟩) zm zm, .string zb] 28)
                        have hbn := Blk.new u1 28 #[.int .i64 zc, .int .i64 zl, .slice (some ⟨bf, 0, none⟩) zm zm, .string zb]
                        have HU2 := hid hgn
                        generalize u1.alloc (.cells #[.int .i64 zc, .int .i64 zl, .slice (some ⟨bf, 0, none⟩) zm zm, .string zb] 28) = u2 at *
                        generalize u1.heap.size = gu at *
                        have HBu := hid hbn
                        clear hgn hbn
                        go_upto_region 51 with (go_at_call 7; refine (HHa.out u2 (HG1.out.trans HU2.out)).mono ?_; rintro e u3 ⟨rfl, hg3⟩)
                        have HU3 := hid (HU2.out.trans hg3)
                        have HBv := hid (HBu.out.grew hg3)
                        have HW3 := hid ((HG1.out.trans HU2.out).trans hg3)
                        clear hg3 HBu HU2 HHa
                        have a0 := fun (y : After u3) => (HBv.out.grew y.grew).cell 0
                        have a1 := fun (y : After u3) => (HBv.out.grew y.grew).cell 1
                        have a2 := fun (y : After u3) => (HBv.out.grew y.grew).cell 2
                        have a3 := fun (y : After u3) => (HBv.out.grew y.grew).cell 3
                        have al := fun (y : After u3) => (HBv.out.grew y.grew).lt
                        simp only [List.getElem?_toArray, List.getElem?_cons_zero, List.getElem?_cons_succ] at a0 a1 a2 a3
                        have p0 := fun (y : After u3) => ((HW3.out.trans y.grew).below.cell (p := adl.add (j * 4)) (by rw [block_add]; exact P.out.2.2.2.2)).trans P.out.1
                        have p1 := fun (y : After u3) => ((HW3.out.trans y.grew).below.cell (p := ⟨adl.block, (adl.add (j * 4)).off + 1, none⟩) P.out.2.2.2.2).trans P.out.2.1
                        have p2 := fun (y : After u3) => ((HW3.out.trans y.grew).below.cell (p := ⟨adl.block, (adl.add (j * 4)).off + 2, none⟩) P.out.2.2.2.2).trans P.out.2.2.1
                        have p3 := fun (y : After u3) => ((HW3.out.trans y.grew).below.cell (p := ⟨adl.block, (adl.add (j * 4)).off + 3, none⟩) P.out.2.2.2.2).trans P.out.2.2.2.1
                        have pl := fun (y : After u3) => Nat.lt_of_lt_of_le P.out.2.2.2.2 (HW3.out.trans y.grew).below.size
                        refine wp_region_grew_from (w0 := u3) (Grew.refl u3) (by kernel_rfl) (by kernel_rfl) ?_
                        repeat (go_big_quiet_step (fail))
                        go_big_quiet_step ((go_at_call 23; exact Calls.grew (After.grew _) (HIs.out _ (HU3.out.trans (After.grew _)))))
                        repeat (go_big_quiet_step (fail))
                        go_big_quiet_step ((go_at_call 24; exact Calls.grew (After.grew _) (HRh.out _ (HW3.out.trans (After.grew _)))))
                        repeat (go_big_quiet_step (fail))
                        refine wpQuiet_nil ?_
                        rintro _ ⟨y, rfl⟩
                        have hhh : (((Ob.hash (objs lv) j : Nat) : Int) != ((Ob.hash (objs lv) j : Nat) : Int)) = false := by simp
                        have HRj := hid ((HR.out.trans HW3.out).trans y.grew)
                        clear a0 a1 a2 a3 al p0 p1 p2 p3 pl
                        go_wp2_with fail
                        go_round
                        case rel => exact ⟨j + 1, by go_num, by omega, HRj⟩
                        case measure => simp [intOf]; omega
                      · have hjn : j = ln := by omega
                        subst hjn
                        go_wp2_with fail
                        refine (HGn.out wr HR.out).mono ?_
                        rintro e u1 ⟨rfl, hg1⟩
                        unfold zeroO
                        have HU1 := hid (HR.out.trans hg1)
                        clear hg1
                        go_upto_region 54 with fail
                        have HU2 := hid (HU1.out.alloc (.cells #[.int .i64 0, .int .i64 0, .slice none 0 0, .string ⟨#[]⟩] 28))
                        generalize u1.alloc (.cells #[.int .i64 0, .int .i64 0, .slice none 0 0, .string ⟨#[]⟩] 28) = u2 at *
                        go_wp2_with fail
                        refine (HHn.out u2 HU2.out).mono ?_
                        rintro e u3 ⟨rfl, hg3⟩
                        have HU3 := hid (HU2.out.trans hg3)
                        clear hg3 HU2 HU1
                        go_wp2_with fail
                        refine (num_c 3 u3 (HE.out.grew (HGq.out.trans HU3.out))).mono ?_
                        rintro e u4 ⟨rfl, hg4⟩
                        have HU4 := hid (HU3.out.trans hg4)
                        clear hg4 HU3
                        go_wp2_with fail
                        refine (num_c 3 u4 (HE.out.grew (HGq.out.trans HU4.out))).mono ?_
                        rintro e u5 ⟨rfl, hg5⟩
                        have HU5 := hid (HU4.out.trans hg5)
                        clear hg5 HU4
                        go_wp2_with fail
                        refine (sure_c u5 (HE.out.grew (HGq.out.trans HU5.out))).mono ?_
                        rintro e u6 ⟨rfl, hg6⟩
                        go_wp2_with fail
                        go_ret
                        exact ⟨rfl, (HGq.out.trans HU5.out).trans hg6⟩
                  · have f1 : ¬ (a : Int) < (an : Int) := by omega
                    clear h1 hgo
                    go_upto_region 47 with fail
                    go_loopw [26, 27, 28, 29, 30] (fun s26 _ _ _ _ wr => ∃ j : Nat, s26 = .int .i64 ((j : Nat) : Int) ∧ j ≤ ln ∧ Hid (Grew wq wr)) (fun s26 _ _ _ _ _ => ln - (intOf s26).toNat)
                    case atStart => exact ⟨0, rfl, Nat.zero_le _, HR0⟩
                    case round =>
                      obtain ⟨j, rfl, hj, HR⟩ := hrel
                      by_cases hlt : j < ln
                      · have g1 : (j : Int) < ln := by omega
                        obtain ⟨adl, z, rfl, hz, p0, p1, p2, p3, pl, hzo⟩ := ov_get HRn.out.own.at HR.out (i := j) (by rw [HLn.out]; exact hlt)
                        have hsome : (objsI s2.its)[j]? = some z.o := by rw [HRn.out.eq]; exact objs_at hz
                        obtain ⟨x, hx, hxo⟩ := objsI_get hsome
                        have hget := HLo.out wr HR.out j x hx
                        have HHa := hid (fun W (hW : Grew wr W) => HHo.out W (HR.out.trans hW) j x hx)
                        have hxh : x.h = Ob.hash (objs lv) j := by rw [HRn.out.st.hs j x hx, HRn.out.eq]
                        rw [hxh] at HHa
                        rw [hxo] at hget
                        have HRh := hid (fun W (hW : Grew wr W) => rhash_c (some adl) cl lv j W (HRn.out.own.at.grew (HR.out.trans hW)) (by rw [HLn.out]; omega) (by rw [HLn.out]; exact hlt))
                        rw [HLn.out] at HRh
                        have HZo := hid hzo
                        have HZl := hid (show z.o.f.length ≤ 1000 by have h1 := (head_spec (HRn.out.may z (List.mem_of_getElem? hz))).2.2.2.2.1; omega)
                        have P := hid (And.intro p0 (And.intro p1 (And.intro p2 (And.intro p3 pl))))
                        clear hz hx hxo hsome hxh hzo p0 p1 p2 p3 pl
                        go_wp2_with fail
                        refine hget.mono ?_
                        rintro e u1 ⟨bf, rfl, hbf, hbk, hg1⟩
                        have HIs := hid (fun W (hW : Grew u1 W) => isObj_c z.o (some ⟨bf, 0, none⟩) z.o.f.length z.A z.c W (show ValsAt W (some ⟨bf, 0, none⟩) z.o.f from ⟨HZo.out.f.1, fun _ => ⟨_, rfl, (hbk.grew hW).lt, fun i v hi q u hu => blk_row (hbk.grew hW) _ rfl _ _ (flat_at valF 3 valF_len _ i v hi q u hu)⟩⟩) (HZo.out.f.grew (hg1.trans hW)) HZl.out)
                        have HG1 := hid hg1
                        clear hbf hbk hg1 hget
                        obtain ⟨⟨zc, zl, zf, zb⟩, zA, zcap⟩ := z
                        simp only at P HIs ⊢
                        generalize zf.length = zm at *
                        go_upto_region 50 with fail
                        have hgn := (Grew.refl u1).alloc (.cells #[.int .i64 zc, .int .i64 zl, .slice (some ⟨bf, 0, none⟩) zm zm, .string zb] 28)
                        have hbn := Blk.new u1 28 #[.int .i64 zc, .int .i64 zl, .slice (some ⟨bf, 0, none⟩) zm zm, .string zb]
                        have HU2 := hid hgn
                        generalize u1.alloc (.cells #[.int .i64 zc, .int .i64 zl, .slice (some ⟨bf, 0, none⟩) zm zm, .string zb] 28) = u2 at *
                        generalize u1.heap.size = gu at *
                        have HBu := hid hbn
                        clear hgn hbn
                        go_upto_region 51 with (go_at_call 7; refine (HHa.out u2 (HG1.out.trans HU2.out)).mono ?_; rintro e u3 ⟨rfl, hg3⟩)
                        have HU3 := hid (HU2.out.trans hg3)
                        have HBv := hid (HBu.out.grew hg3)
                        have HW3 := hid ((HG1.out.trans HU2.out).trans hg3)
                        clear hg3 HBu HU2 HHa
                        have a0 := fun (y : After u3) => (HBv.out.grew y.grew).cell 0
                        have a1 := fun (y : After u3) => (HBv.out.grew y.grew).cell 1
                        have a2 := fun (y : After u3) => (HBv.out.grew y.grew).cell 2
                        have a3 := fun (y : After u3) => (HBv.out.grew y.grew).cell 3
                        have al := fun (y : After u3) => (HBv.out.grew y.grew).lt
                        simp only [List.getElem?_toArray, List.getElem?_cons_zero, List.getElem?_cons_succ] at a0 a1 a2 a3
                        have p0 := fun (y : After u3) => ((HW3.out.trans y.grew).below.cell (p := adl.add (j * 4)) (by rw [block_add]; exact P.out.2.2.2.2)).trans P.out.1
                        have p1 := fun (y : After u3) => ((HW3.out.trans y.grew).below.cell (p := ⟨adl.block, (adl.add (j * 4)).off + 1, none⟩) P.out.2.2.2.2).trans P.out.2.1
                        have p2 := fun (y : After u3) => ((HW3.out.trans y.grew).below.cell (p := ⟨adl.block, (adl.add (j * 4)).off + 2, none⟩) P.out.2.2.2.2).trans P.out.2.2.1
                        have p3 := fun (y : After u3) => ((HW3.out.trans y.grew).below.cell (p := ⟨adl.block, (adl.add (j * 4)).off + 3, none⟩) P.out.2.2.2.2).trans P.out.2.2.2.1
                        have pl := fun (y : After u3) => Nat.lt_of_lt_of_le P.out.2.2.2.2 (HW3.out.trans y.grew).below.size
                        refine wp_region_grew_from (w0 := u3) (Grew.refl u3) (by kernel_rfl) (by kernel_rfl) ?_
                        repeat (go_big_quiet_step (fail))
                        go_big_quiet_step ((go_at_call 23; exact Calls.grew (After.grew _) (HIs.out _ (HU3.out.trans (After.grew _)))))
                        repeat (go_big_quiet_step (fail))
                        go_big_quiet_step ((go_at_call 24; exact Calls.grew (After.grew _) (HRh.out _ (HW3.out.trans (After.grew _)))))
                        repeat (go_big_quiet_step (fail))
                        refine wpQuiet_nil ?_
                        rintro _ ⟨y, rfl⟩
                        have hhh : (((Ob.hash (objs lv) j : Nat) : Int) != ((Ob.hash (objs lv) j : Nat) : Int)) = false := by simp
                        have HRj := hid ((HR.out.trans HW3.out).trans y.grew)
                        clear a0 a1 a2 a3 al p0 p1 p2 p3 pl
                        go_wp2_with fail
                        go_round
                        case rel => exact ⟨j + 1, by go_num, by omega, HRj⟩
                        case measure => simp [intOf]; omega
                      · have hjn : j = ln := by omega
                        subst hjn
                        go_wp2_with fail
                        refine (HGn.out wr HR.out).mono ?_
                        rintro e u1 ⟨rfl, hg1⟩
                        unfold zeroO
                        have HU1 := hid (HR.out.trans hg1)
                        clear hg1
                        go_upto_region 54 with fail
                        have HU2 := hid (HU1.out.alloc (.cells #[.int .i64 0, .int .i64 0, .slice none 0 0, .string ⟨#[]⟩] 28))
                        generalize u1.alloc (.cells #[.int .i64 0, .int .i64 0, .slice none 0 0, .string ⟨#[]⟩] 28) = u2 at *
                        go_wp2_with fail
                        refine (HHn.out u2 HU2.out).mono ?_
                        rintro e u3 ⟨rfl, hg3⟩
                        have HU3 := hid (HU2.out.trans hg3)
                        clear hg3 HU2 HU1
                        go_wp2_with fail
                        refine (num_c 3 u3 (HE.out.grew (HGq.out.trans HU3.out))).mono ?_
                        rintro e u4 ⟨rfl, hg4⟩
                        have HU4 := hid (HU3.out.trans hg4)
                        clear hg4 HU3
                        go_wp2_with fail
                        refine (num_c 3 u4 (HE.out.grew (HGq.out.trans HU4.out))).mono ?_
                        rintro e u5 ⟨rfl, hg5⟩
                        have HU5 := hid (HU4.out.trans hg5)
                        clear hg5 HU4
                        go_wp2_with fail
                        refine (sure_c u5 (HE.out.grew (HGq.out.trans HU5.out))).mono ?_
                        rintro e u6 ⟨rfl, hg6⟩
                        go_wp2_with fail
                        go_ret
                        exact ⟨rfl, (HGq.out.trans HU5.out).trans hg6⟩
    · rw [hb] at HBig
      go_wp2_with (first | (go_at_call 12; refine HBig.out.mono ?_; rintro e w11 ⟨rfl, hg11⟩) | (go_at_call 13; refine (sure_c w11 (HE.out.grew (HG10.out.trans hg11))).mono ?_; rintro e w12 ⟨rfl, hg12⟩))
      go_ret
      exact ⟨rfl, (HG10.out.trans hg11).trans hg12⟩
  · have g20 : (20 : Int) < (up.length : Int) := by omega
    go_wp2_with (go_at_call 13; refine (sure_c w10 (HE.out.grew HG10.out)).mono ?_; rintro e w11 ⟨rfl, hg11⟩)
    go_ret
    exact ⟨rfl, HG10.out.trans hg11⟩
end Go.Proofs.YtcfknfiddadgbaaDoor

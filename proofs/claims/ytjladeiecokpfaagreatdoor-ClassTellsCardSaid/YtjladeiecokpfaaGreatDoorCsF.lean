/- Stage 10: Find. -/
import Derived.Test.YtjladeiecokpfaaGreatDoorCsE
namespace Go.Proofs.YtjladeiecokpfaaGreatDoor
open Go.RowKit

theorem findIn_idx (ss : List ByteArray) (s : ByteArray) : ∀ ms : List Int, Cs.findIn ss s ms = (ms.findIdx? (hasSel ss s)).map fun j => (ms.getD j 0).toNat
  | [] => rfl
  | m :: r => by
    rw [Cs.findIn, List.findIdx?_cons, findIn_idx ss s r]
    by_cases h : 0 ≤ m ∧ ss[m.toNat]? = some s
    · rw [if_pos h, if_pos (show hasSel ss s m = true from decide_eq_true h)]
      rfl
    · rw [if_neg h, if_neg (by rw [show hasSel ss s m = false from decide_eq_false h]; decide)]
      cases r.findIdx? (hasSel ss s) with
      | none => rfl
      | some j => rfl
theorem findIn_at {ss : List ByteArray} {s : ByteArray} {ms : List Int} {j : Nat} (h : ms.findIdx? (hasSel ss s) = some j) : j < ms.length ∧ 0 ≤ ms.getD j 0 ∧ Cs.findIn ss s ms = some (ms.getD j 0).toNat := by
  have h1 := h
  rw [List.findIdx?_eq_some_iff_getElem] at h1
  obtain ⟨hj, hp, _⟩ := h1
  have e : ms.getD j 0 = ms[j] := by rw [List.getD_eq_getElem?_getD, List.getElem?_eq_getElem hj]; rfl
  refine ⟨hj, ?_, by rw [findIn_idx, h]; rfl⟩
  rw [e]
  exact (of_decide_eq_true hp).1
theorem int_get {w wr : World} {ad : Addr} {l : List Int} (h : IntsAt w w.heap.size (some ad) l) (hg : Grew w wr) {i : Nat} {x : Int} (hx : l[i]? = some x) : wr.cell? (ad.add i) = some (.int .i64 x) ∧ ad.block < wr.heap.size := by
  obtain ⟨ad', x', e, hx', h1, h2⟩ := int_at h hg (List.getElem?_eq_some_iff.1 hx).1
  obtain rfl := Option.some.inj e
  rw [hx] at hx'
  obtain rfl := Option.some.inj hx'
  exact ⟨h1, h2⟩
set_option maxRecDepth 100000 in
set_option maxHeartbeats 4000000 in
theorem find_c (A : Option Addr) (cap : Nat) (l : List CV) (A2 : Option Addr) (c2 : Nat) (ms : List MV) (x : Int) (s : ByteArray) (w : World) (h : ClsAt w A l) (h2 : MethsAt w A2 ms) :
    Calls Tryz.prog 12 #[.slice A l.length cap, .slice A2 ms.length c2, .int .i64 x, .string s] w (FindPost w (Cs.find (cls l) (sels ms) x s)) := by
  obtain ⟨W, hW⟩ : ∃ W, W = (w.alloc (.cells #[.slice A2 ms.length c2] 30)).alloc (.cells #[.string s] 9) := ⟨_, rfl⟩
  have hg : Grew w W := by rw [hW]; exact ((Grew.refl w).alloc _).alloc _
  obtain ⟨G, hG⟩ : ∃ G, G = w.heap.size := ⟨_, rfl⟩
  have b0 : Blk W G 30 #[.slice A2 ms.length c2] := by
    rw [hW, hG]; exact (Blk.new w _ _).grew ((Grew.refl _).alloc _)
  have b1 : Blk W (G + 1) 9 #[.string s] := by
    have := Blk.new (w.alloc (.cells #[.slice A2 ms.length c2] 30)) 9 #[.string s]
    rw [World.size_alloc] at this
    rw [hW, hG]; exact this
  have HG := hid hg
  have HA := hid h
  have HC := hid (chain_c A cap l x W (h.grew hg))
  have HL := hid (Cs.chain_le (cls l) x)
  have HM := hid (Cs.chain_mem (cls l) x)
  have HI := hid (fun (v : CV) (hv : v ∈ l) (W' : World) (hw : Grew W W') => idxInt_c 33 #[.pointer (some ⟨G, 0, none⟩), .pointer (some ⟨G + 1, 0, none⟩)] (enters_of Tryz.func33 (by kernel_rfl) rfl) (hasSel (sels ms) s) v.A2 v.c2 v.c.ms W' (((h.arg.ok v hv).grew hg).grew hw).ms (by have := h.fit.ms _ (h.mem hv); omega) (fun i _ V hV => find1_c i A2 ms.length c2 ms s G (G + 1) V ((b0.grew hw).grew hV) ((b1.grew hw).grew hV) (((h2.grew hg).grew hw).grew hV) rfl))
  obtain ⟨R, hR⟩ : ∃ R, R = Cs.find (cls l) (sels ms) x s := ⟨_, rfl⟩
  rw [← hR]
  unfold Cs.find at hR
  have HR := hid hR
  obtain ⟨n, en⟩ : ∃ n, n = l.length := ⟨_, rfl⟩
  have hn : n ≤ 100 := by rw [en]; exact h.len
  rw [← en] at HC ⊢
  have EN := hid en
  clear h h2 hg b0 b1 en hR
  generalize ms.length = nm at *
  generalize sels ms = ss at *
  generalize Cs.chain (cls l) x = K at *
  go_enter Tryz.func12, Tryz.ntmps12
  go_wp2_with fail
  rw [← hW, ← hG]
  clear hW hG
  refine HC.out.mono ?_
  rintro e w1 ⟨B, k, rfl, hr, hg1⟩
  have HK := hid hr
  have HG1 := hid hg1
  obtain ⟨m, em⟩ : ∃ m, m = K.length := ⟨_, rfl⟩
  rw [← em]
  have EM := hid em
  have hm : m ≤ 100 := by have := HL.out; rw [cls_len, ← EN.out] at this; omega
  clear hr hg1 em
  go_wp2_with fail
  go_loopw [12, 13, 14, 20] (fun _ _ _ s20 wr => ∃ i : Nat, s20 = .int .i64 ((i : Nat) : Int) ∧ i ≤ m ∧ Grew w1 wr ∧ Hid (R = Cs.findAt (cls l) ss s (K.drop i))) (fun _ _ _ s20 _ => m - (intOf s20).toNat)
  case atStart => exact ⟨0, rfl, Nat.zero_le _, Grew.refl _, HR⟩
  case round =>
    obtain ⟨i, rfl, hi, hg, HE⟩ := hrel
    have HW := hid hg
    clear hg
    by_cases hlt : i < m
    · have f1 : (i : Int) < m := by omega
      obtain ⟨g, d, rfl, hd, q0, hb⟩ := rown_at HK.out HW.out (i := i) (by rw [← EM.out]; exact hlt)
      have hdn : d < n := by have := HM.out d (List.mem_of_getElem? hd); rwa [cls_len, ← EN.out] at this
      have hdi : (d : Int) < (n : Int) := by omega
      obtain ⟨ad, v, rfl, hv, -, -, -, r3, hb2, hok⟩ := cv_at HA.out (HG.out.trans (HG1.out.trans HW.out)) (i := d) (by rw [← EN.out]; exact hdn)
      have HX := hid (HI.out v (List.mem_of_getElem? hv) _ (HG1.out.trans HW.out))
      have HD := hid (show Cs.findAt (cls l) ss s (K.drop i) = match Cs.findIn ss s v.c.ms with | some q => some q | none => Cs.findAt (cls l) ss s (K.drop (i + 1)) by
        rw [List.drop_eq_getElem_cons (by rw [← EM.out]; exact hlt)]
        have e : K[i]'(by rw [← EM.out]; exact hlt) = d := by
          have := (List.getElem?_eq_some_iff.1 hd).2
          exact this
        rw [e, Cs.findAt, cls_at hv]
        rfl)
      have hmb : v.c.ms.length ≤ 100 := HA.out.fit.ms _ (HA.out.mem (List.mem_of_getElem? hv))
      have HMs := hid hok.ms
      clear hd hv hok
      unfold IdxPost at HX
      cases hf : v.c.ms.findIdx? (hasSel ss s) with
      | none =>
        have HN := hid (show Cs.findIn ss s v.c.ms = none by rw [findIn_idx, hf]; rfl)
        rw [hf] at HX
        rw [show optI none = -1 from rfl] at HX
        rw [HN.out] at HD
        clear hf HN
        generalize v.c.ms.length = mm at *
        go_wp2_with fail
        refine HX.out.mono ?_
        rintro e w3 ⟨rfl, hg3⟩
        have HG3 := hid hg3
        clear hg3
        go_wp2_with fail
        go_round
        case rel => exact ⟨i + 1, by go_num, by omega, HW.out.trans HG3.out, hid (HE.out.trans HD.out)⟩
        case measure => simp [intOf]; omega
      | some j =>
        obtain ⟨hj, hp, hs⟩ := findIn_at hf
        have HN := hid hs
        rw [hf] at HX
        rw [show optI (some j) = ((j : Nat) : Int) from rfl] at HX
        rw [HN.out] at HD
        have HJ := hid (show (((v.c.ms.getD j 0).toNat : Nat) : Int) = v.c.ms.getD j 0 by omega)
        have hji : (j : Int) < (v.c.ms.length : Int) := by omega
        obtain ⟨ad2, y, e2, hy, _, _⟩ := int_at HMs.out (Grew.refl _) (i := j) hj
        rw [e2] at HMs r3 HX
        have HQ := hid (fun (V : World) (hV : Grew _ V) => int_get HMs.out hV hy)
        have HY := hid (show (((v.c.ms.getD j 0).toNat : Nat) : Int) = y by rw [HJ.out, List.getD_eq_getElem?_getD, hy]; rfl)
        clear hf hs hp HMs hy e2
        generalize (v.c.ms.getD j 0).toNat = z at *
        generalize v.c.ms.length = mm at *
        go_wp2_with fail
        refine HX.out.mono ?_
        rintro e w3 ⟨rfl, hg3⟩
        have HG3 := hid hg3
        obtain ⟨t0, t1⟩ := HQ.out _ hg3
        clear hg3
        go_wp2_with fail
        go_ret2
        refine ⟨?_, HG.out.trans (HG1.out.trans (HW.out.trans HG3.out))⟩
        rw [HE.out, HD.out]
        show Ending.returned (.tuple #[.int .i64 y, .bool true]) = Ending.returned (.tuple #[.int .i64 ((z : Nat) : Int), .bool true])
        rw [HY.out]
    · have hin : i = m := by omega
      subst hin
      have HN := hid (show R = none by
        rw [HE.out, List.drop_of_length_le (by rw [← EM.out]; exact Nat.le_refl _)]
        rfl)
      go_wp2_with fail
      go_ret2
      exact ⟨by rw [HN.out]; rfl, HG.out.trans (HG1.out.trans HW.out)⟩
end Go.Proofs.YtjladeiecokpfaaGreatDoor

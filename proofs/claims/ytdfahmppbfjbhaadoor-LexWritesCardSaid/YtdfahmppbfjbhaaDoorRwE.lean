/- Stage 13, the document's own: Text. -/
import Derived.Test.YtdfahmppbfjbhaaDoorRwD
import Derived.Test.YtdfahmppbfjbhaaDoorWxM
import Derived.Laws.BytesArg
namespace Go.Proofs.YtdfahmppbfjbhaaDoor
open Go.RowKit

theorem strOf_ns (l : List UInt8) : strOfNums ((ns l).map fun x : Nat => (x : Int)) = ofL l := by
  unfold strOfNums ofL ns
  congr 1
  rw [List.map_map, List.map_map]
  congr 1
  conv => rhs; rw [← List.map_id l]
  apply List.map_congr_left
  intro c _
  simp
/-- 'string(out)'. -/
theorem row_str {w : World} {B : Nat} {A : Option Addr} {m c : Nat} {l : List UInt8} (h : Row w B 5 1 A m c (numCells .u8 (ns l))) (hm : m = l.length) : (convert 54 9 (.slice A m c)).run Tryd.prog w = .ok (.string (ofL l)) w := by
  subst hm
  rcases h.cases with ⟨_, _, _, ⟨rfl, h0, _⟩ | ⟨g, rfl, _, hlt, hc, _⟩⟩
  · have hl : l = [] := List.eq_nil_of_length_eq_zero h0
    subst hl
    exact run_convert_bytes_nil w 54 5 Tryd.underlying54 Tryd.underlying5 _ _ _ Tryd.underlying9
  · rw [← strOf_ns]
    refine run_convert_bytes_arg w 54 5 Tryd.underlying54 Tryd.underlying5 g 0 l.length c ((ns l).map fun x : Nat => (x : Int)) (by rw [List.length_map, ns_len]) (fun j hj => ?_) _ Tryd.underlying9
    rw [Nat.zero_add, hc j _ (numCells_get .u8 (ns l) j (by rw [ns_len]; exact hj))]
    simp [List.getD_eq_getElem?_getD, List.getElem?_map]
    cases (ns l)[j]? <;> rfl
/-- What Text answers. -/
def RTextPost (l : List Lx.Word) (w : World) (e : Ending) (w' : World) : Prop :=
  Grew w w' ∧ ((mayAll l = false ∧ e = .returned (.tuple #[.string ⟨#[]⟩, .int .i64 1])) ∨
  (mayAll l = true ∧ 65536 < (Lx.text l).length ∧ e = .returned (.tuple #[.string ⟨#[]⟩, .int .i64 4])) ∨
  (mayAll l = true ∧ (Lx.text l).length ≤ 65536 ∧ e = .returned (.tuple #[.string (ofL (Lx.text l)), .int .i64 0])))
set_option maxRecDepth 100000 in
set_option maxHeartbeats 8000000 in
theorem rtext_c (A : Option Addr) (cap : Nat) (l : List Lx.Word) (w : World) (h : WordsAt w A l) (hl : l.length ≤ 1000000) (hs : ∀ x ∈ l, x.s.size ≤ 4294967280) :
    Calls Tryd.prog 16 #[.slice A l.length cap] w (RTextPost l w) := by
  obtain ⟨n, en⟩ : ∃ n, n = l.length := ⟨_, rfl⟩
  have HA := hid h
  have HS := hid hs
  unfold RTextPost
  rw [← en] at hl ⊢
  have EN := hid en
  clear h en hs
  go_enter Tryd.func16, Tryd.ntmps16
  go_wp2_with fail
  go_loopw [4] (fun s4 wr => ∃ i : Nat, s4 = .int .i64 ((i : Nat) : Int) ∧ i ≤ n ∧ Hid (mayAll (l.take i) = true) ∧ Hid (Grew w wr)) (fun s4 _ => n - (intOf s4).toNat)
  case atStart => exact ⟨0, rfl, Nat.zero_le _, hid rfl, hid (Grew.refl _)⟩
  case round =>
    obtain ⟨i, rfl, hi, HI, HG⟩ := hrel
    by_cases hlt : i < n
    · have f1 : (i : Int) < n := by omega
      obtain ⟨ad, x, rfl, hx, q0, q1, q2, hb, hk, _⟩ := word_at HA.out HG.out (i := i) (by rw [← EN.out]; exact hlt)
      have hmem : x ∈ l := List.mem_of_getElem? hx
      have HM := hid (fun W => rmay_c x.k hk x.s x.o (HS.out x hmem) W)
      have HT : Hid (mayAll (l.take (i + 1)) = Lx.may x) := hid (by
        have := HI.out
        unfold mayAll at this ⊢
        rw [List.take_add_one, hx, List.all_append, this]
        simp)
      have HX : Hid (Lx.may x = false → mayAll l = false) := hid (fun hf => by
        cases hm : mayAll l
        · rfl
        · have := may_mem hm hmem
          rw [hf] at this
          cases this)
      have ex : (⟨x.k, x.s, x.o⟩ : Lx.Word) = x := rfl
      rw [ex] at HM
      clear hx hmem
      generalize Lx.may x = b at *
      obtain ⟨k, s, o⟩ := x
      simp only at q0 q1 q2 HM
      go_wp2_with fail
      refine (HM.out _).mono ?_
      rintro e w2 ⟨rfl, hg2⟩
      have HG2 := hid (HG.out.trans hg2)
      clear hg2 q0 q1 q2 hb
      cases b
      · have HF := hid (HX.out rfl)
        go_wp2_with fail
        go_ret2
        exact ⟨HG2.out, .inl ⟨HF.out, rfl⟩⟩
      · go_wp2_with fail
        go_round
        case rel => exact ⟨i + 1, by go_num, by omega, hid HT.out, HG2⟩
        case measure => simp [intOf]; omega
    · have hin : n = i := by omega
      subst hin
      have HAll : Hid (mayAll l = true) := hid (by
        have := HI.out
        rwa [EN.out, List.take_length] at this)
      clear HI
      go_wp2_with fail
      go_loopw [5, 6] (fun s5 s6 wr => ∃ (i m : Nat) (R : Option Addr) (c : Nat), s5 = .slice R m c ∧ s6 = .int .i64 ((i : Nat) : Int) ∧ i ≤ n ∧ m ≤ 70000 ∧ Hid (m = (Lx.text (l.take i)).length) ∧ Hid (Row wr w.heap.size 5 1 R m c (numCells .u8 (ns (Lx.text (l.take i))))) ∧ Hid (Grew w wr)) (fun _ s6 _ => n - (intOf s6).toNat)
      case atStart => exact ⟨0, 0, none, 0, rfl, rfl, Nat.zero_le _, by decide, hid (by simp [Lx.text]), hid (Row.nil _ _ _ _), HG⟩
      case round =>
        obtain ⟨i, m, R, c, rfl, rfl, hi, hm, HM, HR, HG⟩ := hrel
        by_cases hlt : i < n
        · have f1 : (i : Int) < n := by omega
          by_cases hbig : 65536 < m
          · have f2 : ¬ ((m : Nat) : Int) ≤ 65536 := by omega
            have HBig : Hid (65536 < (Lx.text l).length) := hid (Nat.lt_of_lt_of_le hbig (by rw [HM.out]; exact Lx.text_take_le l i))
            go_wp2_with fail
            go_ret2
            exact ⟨HG.out, .inr (.inl ⟨HAll.out, HBig.out, rfl⟩)⟩
          · have f2 : ((m : Nat) : Int) ≤ 65536 := by omega
            obtain ⟨ad, x, rfl, hx, q0, q1, q2, hb, hk, _⟩ := word_at HA.out HG.out (i := i) (by rw [← EN.out]; exact hlt)
            have hmem : x ∈ l := List.mem_of_getElem? hx
            have hmt := may_text (may_mem HAll.out hmem)
            have hsl := src_len hmt
            have HOne := hid (fun W => rone_c x.k x.s x.o hmt W)
            have HTx := hid (text_next hx)
            have HQ := hid (fun W (hg : Grew w W) => by
              obtain ⟨ad2, x2, e2, hx2, r0, r1, r2, rb, _⟩ := word_at HA.out hg (i := i) (by rw [← EN.out]; exact hlt)
              rw [hx] at hx2
              cases hx2
              cases e2
              exact (⟨r0, r1, r2, rb⟩ : W.cell? (ad.add (i * 3)) = some (.int .u8 ((x.k : Nat) : Int)) ∧ W.cell? ⟨ad.block, (ad.add (i * 3)).off + 1, none⟩ = some (.string x.s) ∧ W.cell? ⟨ad.block, (ad.add (i * 3)).off + 2, none⟩ = some (.int .i64 x.o) ∧ ad.block < W.heap.size))
            have hsw : Lx.srcW x = Lx.src x.k (bs x.s) := rfl
            clear hx hmem hmt
            obtain ⟨sw, esw⟩ : ∃ sw, sw = Lx.src x.k (bs x.s) := ⟨_, rfl⟩
            rw [hsw] at HTx
            rw [← esw] at hsl HOne HTx
            obtain ⟨sn, esn⟩ : ∃ sn, sn = sw.length := ⟨_, rfl⟩
            rw [← esn] at hsl
            have HSn := hid esn
            clear hsw esw esn
            obtain ⟨k, s, o⟩ := x
            simp only at q0 q1 q2 HOne HQ
            by_cases h0 : i = 0
            · have f0 : ¬ (0 : Int) < ((i : Nat) : Int) := by omega
              have HT0 : Hid (Lx.text (l.take (i + 1)) = sw) := hid (by have := HTx.out; rwa [if_pos h0] at this)
              have HZ : Hid (Lx.text (l.take i) = []) := hid (by rw [h0]; simp [Lx.text])
              have hm0 := hid (show m = 0 by rw [HM.out, HZ.out]; rfl)
              clear HTx h0
              go_wp2_with fail
              refine (HOne.out _).mono ?_
              rintro e w2 ⟨A2, c2, rfl, hn2, hg2⟩
              rw [← HSn.out]
              have HN2 := hid hn2
              have HG2 := hid (HG.out.trans hg2)
              have HR2 := hid (HR.out.grew hg2)
              have HL := hid (show (numCells .u8 (ns sw)).length = sn * 1 by rw [numCells_length, ns_len, Nat.mul_one, HSn.out])
              have HNo := hid (show A2 = none → sn = 0 from fun h => by have := HN2.out.cells.1 h; rw [ns_len, ← HSn.out] at this; exact this)
              clear hn2 hg2 q0 q1 q2 hb
              go_wp2_with (at_builtin; refine wpList_catR (.int .u8 0) 1 1 w2 rfl _ _ 54 5 rfl Tryd.underlying54 u8_info13 rfl (by decide) w.heap.size HG2.out.below.size R m c _ rfl HR2.out A2 sn c2 (numCells .u8 (ns sw)) rfl HL.out (numCells_one _ _) HNo.out HN2.out.cells.2 (by omega) (by omega) ?_; rintro A8 k8 w8 hR8 hK8 hT8; have HR8 := hid hR8; have HG8 := hid (hK8.grew HG2.out (Row.at_base HR2.out)); clear hR8 hK8 hT8)
              go_round
              case rel => exact ⟨i + 1, m + sn, A8, k8, rfl, by go_num, hlt, by omega, hid (by rw [HT0.out, hm0.out, Nat.zero_add, HSn.out]), hid (by
                have h := HR8.out
                rw [HZ.out] at h
                rw [HT0.out]
                exact h), HG8⟩
              case measure => simp [intOf]; omega
            · have f0 : (0 : Int) < ((i : Nat) : Int) := by omega
              have HT1 : Hid (Lx.text (l.take (i + 1)) = Lx.text (l.take i) ++ 32 :: sw) := hid (by have := HTx.out; rwa [if_neg h0] at this)
              clear HTx q0 q1 q2 hb
              go_upto_region 12 with (at_builtin; refine wpList_pushR (.int .u8 0) 1 wr rfl _ _ 54 5 rfl Tryd.underlying54 u8_info13 rfl w.heap.size HG.out.below.size R m c _ rfl HR.out _ rfl rfl (.int .u8 32) rfl (by omega) (by omega) ?_; rintro A1 k1 w1 hR1 hK1 hT1; have HR1 := hid hR1; have HG1 := hid (hK1.grew HG.out (Row.at_base HR.out)); clear hR1 hK1 hT1)
              obtain ⟨q0, q1, q2, hb⟩ := HQ.out _ HG1.out
              go_wp2_with fail
              refine (HOne.out _).mono ?_
              rintro e w2 ⟨A2, c2, rfl, hn2, hg2⟩
              rw [← HSn.out]
              have HN2 := hid hn2
              have HG2 := hid (HG1.out.trans hg2)
              have HR2 := hid (HR1.out.grew hg2)
              have HL := hid (show (numCells .u8 (ns sw)).length = sn * 1 by rw [numCells_length, ns_len, Nat.mul_one, HSn.out])
              have HNo := hid (show A2 = none → sn = 0 from fun h => by have := HN2.out.cells.1 h; rw [ns_len, ← HSn.out] at this; exact this)
              clear hn2 hg2 q0 q1 q2 hb
              go_wp2_with (at_builtin; refine wpList_catR (.int .u8 0) 1 1 w2 rfl _ _ 54 5 rfl Tryd.underlying54 u8_info13 rfl (by decide) w.heap.size HG2.out.below.size A1 (m + 1) k1 _ rfl HR2.out A2 sn c2 (numCells .u8 (ns sw)) rfl HL.out (numCells_one _ _) HNo.out HN2.out.cells.2 (by omega) (by omega) ?_; rintro A8 k8 w8 hR8 hK8 hT8; have HR8 := hid hR8; have HG8 := hid (hK8.grew HG2.out (Row.at_base HR2.out)); clear hR8 hK8 hT8)
              go_round
              case rel => exact ⟨i + 1, m + 1 + sn, A8, k8, rfl, by go_num, hlt, by omega, hid (by
                rw [HT1.out, List.length_append, ← HM.out, List.length_cons, ← HSn.out]
                omega), hid (by
                rw [HT1.out, ns_app, numCells_append, show ns (32 :: sw) = [32] ++ ns sw from rfl, numCells_append, ← List.append_assoc]
                exact HR8.out), HG8⟩
              case measure => simp [intOf]; omega
        · have hin : i = n := by omega
          have f1 : ¬ (i : Int) < n := by omega
          have HTk : Hid (l.take i = l) := hid (by rw [hin, EN.out, List.take_length])
          rw [HTk.out] at HM HR
          clear hin
          by_cases hbig : 65536 < m
          · have f2 : (65536 : Int) < ((m : Nat) : Int) := by omega
            go_wp2_with fail
            go_ret2
            exact ⟨HG.out, .inr (.inl ⟨HAll.out, by rw [← HM.out]; exact hbig, rfl⟩)⟩
          · have f2 : ¬ (65536 : Int) < ((m : Nat) : Int) := by omega
            have hr := row_str HR.out HM.out
            go_wp2_with fail
            go_ret2
            exact ⟨HG.out, .inr (.inr ⟨HAll.out, by rw [← HM.out]; omega, rfl⟩)⟩
end Go.Proofs.YtdfahmppbfjbhaaDoor

/- The document's own answers for law 07: Encode. -/
import Derived.Test.YtjmlcplhilhkpaaDoorOp3
import Derived.Test.YtjmlcplhilhkpaaDoorKept2
import Derived.Deep.DeepCutAuto
import Derived.Deep.RegionLaw
namespace Go.Proofs.YtjmlcplhilhkpaaDoor
open Go.RowKit

def opCells (o : Op7.Ins) : Array Value := #[.int .u8 ((o.code : Nat) : Int), .int .i64 o.a, .int .i64 o.b]
/-- Instructions that lie one behind the other from address 'A' on. -/
def OpsAt (w : World) (B : Nat) (A : Option Addr) (l : List Op7.Ins) : Prop :=
  (∀ o ∈ l, o.code < 256) ∧ (0 < l.length → ∃ ad, A = some ad ∧ ad.block < B ∧ ∀ i o, l[i]? = some o → ∀ j u, (opCells o)[j]? = some u → w.cell? (ad.add (i * 3 + j)) = some u)
theorem op_cell {w : World} {ad : Addr} {i : Nat} {o : Op7.Ins} (h : ∀ j u, (opCells o)[j]? = some u → w.cell? (ad.add (i * 3 + j)) = some u) :
    w.cell? (ad.add (i * 3)) = some (.int .u8 ((o.code : Nat) : Int)) ∧ w.cell? ⟨ad.block, (ad.add (i * 3)).off + 1, none⟩ = some (.int .i64 o.a) ∧ w.cell? ⟨ad.block, (ad.add (i * 3)).off + 2, none⟩ = some (.int .i64 o.b) := by
  have fa : ∀ {a : Addr} {j : Nat}, j ≠ 0 → a.add j = ⟨a.block, a.off + j, none⟩ := fun hj => by simp [Addr.add, hj]
  refine ⟨h 0 (.int .u8 ((o.code : Nat) : Int)) rfl, ?_, ?_⟩
  · have := h 1 _ rfl
    rwa [← add_add, fa (by decide), block_add] at this
  · have := h 2 _ rfl
    rwa [← add_add, fa (by decide), block_add] at this
theorem form_of (c : Nat) (w : World) (hm : c < 256) :
    Calls Tryd.prog 14 #[.int .u8 (c : Nat)] w (fun e w' => e = .returned (.tuple #[.string (formB c), .bool (decide (c < 21))]) ∧ Grew w w') := by
  have h := form_c c w hm
  have e : (if c < 21 then formB c else ⟨#[]⟩) = formB c := by
    split
    · rfl
    · rename_i hc
      have : Op7.wid c = (0, 0) := by
        unfold Op7.wid
        rw [List.getD_eq_getElem?_getD, List.getElem?_eq_none (by simpa [Op7.widths] using hc)]
        rfl
      rw [formB, this]
      rfl
  rwa [e] at h

/-- 'append(out, v)', as a step of a region that draws its order. -/
theorem step_pushM {P : Program} {ops : Array Oper} {o : Oper} {a : Act} {w : World} {K : Act → World → Prop} {Q : Exit → Act → World → Prop} {E : Prop} (k : IntKind) (b : Nat) (w0 : World) (hgd : o.guard = none) (s x : Operand) (t e : TypeId)
    (ho : o.op = .call { callee := .builtin .append, args := #[s, x], argTypes := #[t, t] })
    (ht : P.underlying t = some (.slice e)) (he : (P.info? e).map (fun i => (i.zero, i.size, i.bytes)) = some (some (.int k 0), 1, b))
    (hg : Grew w0 w) (A : Option Addr) (c : Nat) (ys : List Nat) (hs : a.eval s = .slice A ys.length c) (hown : OwnNums k w0 w e A c ys) (v H : Nat) (hxv : a.eval x = .slice (some ⟨H, 0, none⟩) 1 1) (hx : NumsAt k w w.heap.size (some ⟨H, 0, none⟩) [v])
    (hlen : ys.length + 1 ≤ 9223372036854775807) (hby : (ys.length + 1) * b ≤ 140737488355328)
    (h : ∀ A' c' M w', Hid (M = ys ++ [v]) → OwnNums k w0 w' e A' c' M → Grew w0 w' → K (a.put o.dst (.slice A' M.length c')) w') :
    if Region.wanted o (yielded ops a.tmps) = true then Oper.wp P o a w K Q else E := by
  have hw : Region.wanted o (yielded ops a.tmps) = true := by simp [Region.wanted, hgd]
  rw [if_pos hw]
  obtain ⟨A', c', w', hrun, h1, h2⟩ := run_cat (P := P) k t o.type e b ht he w0 w hg A c ys hown _ 1 [v] hx (by simpa using hlen) (by simpa using hby)
  rw [show ([v] : List Nat).length = 1 from rfl] at hrun
  unfold Oper.wp
  simp only [execOp, ho, resolve, invoke, builtin, Sem.run_bind, Sem.run_pure, Result.andThen_ok, List.map_toArray, List.map_cons, List.map_nil, hs, hxv, hrun]
  have := h A' c' (ys ++ [v]) w' rfl h1 h2
  rw [List.length_append] at this
  exact this
def encR (l : List Op7.Ins) : List Nat × Nat := if (∀ o ∈ l, Op7.valid o) then (if 512 < (Op7.encs l).length then ([], 4) else (Op7.encs l, 0)) else ([], 8)
def EncPost (w : World) (r : List Nat × Nat) (e : Ending) (w' : World) : Prop :=
  ∃ A' c' L, e = .returned (.tuple #[.slice A' (List.length L) c', .int .i64 ((r.2 : Nat) : Int)]) ∧ L = r.1 ∧ OwnNums .u8 w w' 5 A' c' L ∧ Grew w w'
set_option maxRecDepth 100000 in
set_option maxHeartbeats 2000000 in
theorem rencode_c (A : Option Addr) (c : Nat) (l : List Op7.Ins) (w : World) (h : OpsAt w w.heap.size A l) (hl : l.length ≤ 1000000) :
    Calls Tryd.prog 10 #[.slice A l.length c] w (EncPost w (encR l)) := by
  have HA := hid h
  obtain ⟨n, en⟩ : ∃ n, n = l.length := ⟨_, rfl⟩
  rw [← en] at hl ⊢
  have EN := hid en
  clear h en
  go_enter Tryd.func10, Tryd.ntmps10
  go_wp2_with fail
  go_loopw [4, 5] (fun s4 s5 wr => ∃ (i : Nat) (G : Option Addr) (k : Nat) (L : List Nat), s4 = .slice G L.length k ∧ s5 = .int .i64 ((i : Nat) : Int) ∧ i ≤ n ∧ L.length ≤ 5 * i ∧ OwnNums .u8 w wr 5 G k L ∧ Grew w wr ∧ Hid (L = Op7.encs (l.take i) ∧ ∀ o ∈ l.take i, Op7.valid o)) (fun _ s5 _ => n - (intOf s5).toNat)
  case atStart => exact ⟨0, none, 0, [], rfl, rfl, Nat.zero_le _, Nat.zero_le _, OwnNums.nil _ _ _ _, Grew.refl _, hid ⟨rfl, by simp⟩⟩
  case round =>
    obtain ⟨i, G, k, L, rfl, rfl, hi, hL, hO, hg, H⟩ := hrel
    have HO := hid hO
    have HG := hid hg
    clear hO hg
    by_cases hlt : i < n
    · have f1 : (i : Int) < n := by omega
      obtain ⟨ad, rfl, hb, hc⟩ := HA.out.2 (by rw [← EN.out]; omega)
      obtain ⟨o, ho⟩ : ∃ o, l[i]? = some o := ⟨_, List.getElem?_eq_getElem (show i < l.length by rw [← EN.out]; exact hlt)⟩
      have HT := hid (show l.take (i + 1) = l.take i ++ [o] by rw [List.take_add_one, ho]; rfl)
      have HM := hid (List.mem_of_getElem? ho)
      have hcc := hc i o ho
      have HC := hid (fun (w' : World) (hg : Grew w w') => op_cell (o := o) (i := i) (ad := ad) (w := w') fun j u hu => by rw [hg.below.cell (by rw [block_add]; exact hb)]; exact hcc j u hu)
      obtain ⟨is, his⟩ : ∃ is, is = decide (o.code < 21) := ⟨_, rfl⟩
      obtain ⟨fa, hfa⟩ : ∃ fa, fa = decide (Op7.fits o.a (Op7.wid o.code).1) := ⟨_, rfl⟩
      obtain ⟨fb, hfb⟩ : ∃ fb, fb = decide (Op7.fits o.b (Op7.wid o.code).2) := ⟨_, rfl⟩
      have HV : Hid (Op7.valid o ↔ (is = true ∧ fa = true ∧ fb = true)) := hid (by rw [his, hfa, hfb]; simp only [decide_eq_true_eq]; exact Iff.rfl)
      have HE := hid (show Op7.valid o → Op7.enc o = o.code :: (beI o.a (Op7.wid o.code).1 ++ beI o.b (Op7.wid o.code).2) from fun h => by
        rw [beI_be (Op7.wid_le _).1 h.2.1, beI_be (Op7.wid_le _).2 h.2.2]; rfl)
      have HF := hid (fun w' => form_of o.code w' (HA.out.1 o HM.out))
      rw [← his] at HF
      have HFA := hid hfa
      have HFB := hid hfb
      clear his hfa hfb
      have HW := hid (wide_of o.code)
      have hw2 := hid (Op7.wid_le o.code)
      clear hcc hc ho hb
      generalize (Op7.wid o.code).1 = x at *
      generalize (Op7.wid o.code).2 = y at *
      generalize formB o.code = s at *
      obtain ⟨q0, q1, q2⟩ := HC.out wr HG.out
      go_upto_region 7 with (first
        | (go_at_call 14; refine (HF.out _).mono ?_; rintro e w1 ⟨rfl, hg1⟩)
        | (go_at_call 24; refine (HW.out _).mono ?_; rintro e w2 ⟨rfl, hg2⟩))
      have HG2 := hid (HG.out.trans (hg1.trans hg2))
      have HO2 := hid (HO.out.grew (hg1.trans hg2))
      clear q0 q1 q2
      obtain ⟨q0, q1, q2⟩ := HC.out w2 HG2.out
      clear hg1 hg2 HG HO
      go_cut [10, 11] from 14 to 73 (fun s10 s11 wx => ∃ (A' : Option Addr) (c' : Nat) (M : List Nat), s10 = .slice A' M.length c' ∧ s11 = .bool fa ∧ M.length = L.length + 1 + x ∧ Hid (M = L ++ [o.code] ++ beI o.a x) ∧ OwnNums .u8 w wx 5 A' c' M ∧ Grew w wx)
      case first =>
        have hCode := HA.out.1 o HM.out
        have q5 : (w2.alloc (.cells #[.int .u8 ((o.code : Nat) : Int)] 5)).cell? ⟨ad.block, (ad.add (i * 3)).off + 1, none⟩ = some (.int .i64 o.a) := (HC.out _ (HG2.out.alloc _)).2.1
        clear HF HW HE HV HM HT HA H
        go_region_law (first
          | (refine step_pushM .u8 1 w rfl (.tmp 35) (.tmp 41) 23 5 rfl Tryd.underlying23 op_u8 (HG2.out.drew.alloc _) G k L (by simp [Act.eval]) (HO2.out.drew.alloc _) o.code w2.heap.size (by simp [Act.eval]) (NumsAt.one .u8 w2.drew _ o.code) (by omega) (by omega) ?_; rintro A1 c1 M1 w3 hM1 hO3 hg3; obtain ⟨_, q3, _⟩ := HC.out w3 hg3)
          | (rw [if_pos (by simp [Region.wanted])]; unfold Oper.wp; go_simp; refine (rput_c A1 c1 M1 o.a x w w3 hw2.out.1 hO3 hg3 (by rw [hM1.out]; simp; omega)).mono ?_; rintro e w4 ⟨A2, c2, M2, rfl, hM2, hO4, hg4⟩; rw [← HFA.out]; replace hM2 := hid hM2))
        all_goals
          have HX := hid (show M2.length = L.length + 1 + x ∧ M2 = L ++ [o.code] ++ beI o.a x by
            rw [hM2.out, hM1.out]
            refine ⟨?_, rfl⟩
            rw [List.length_append, List.length_append, beI_len _ hw2.out.1]; rfl)
          clear hM2 hM1
          go_wp2_with fail
          go_meet
          case rel => exact ⟨A2, c2, M2, rfl, rfl, HX.out.1, hid HX.out.2, hO4, hg4⟩
      case rest =>
        obtain ⟨A', c', M, rfl, rfl, hM, HM2, hO3, hg3⟩ := hcut
        have HM3 := hid hM
        have HO3 := hid hO3
        have HG3 := hid hg3
        clear hM q0 q1 q2 hO3 hg3 HF HW HO2 HG2
        obtain ⟨q0, q1, q2⟩ := HC.out _ HG3.out
        have hx2 := hw2.out
        have HP := hid (rput_c A' c' M o.b y w _ hx2.2 HO3.out HG3.out (by have := HM3.out; omega))
        unfold RPutPost at HP
        rw [← HFB.out] at HP
        clear HFA HFB
        have HNo := hid (show ¬ (is = true ∧ fa = true ∧ fb = true) → encR l = ([], 8) from fun h => by
          unfold encR
          rw [if_neg (fun hv => h (HV.out.1 (hv o HM.out)))])
        have HYes := hid (show (is = true ∧ fa = true ∧ fb = true) → M ++ beI o.b y = Op7.encs (l.take (i + 1)) ∧ ∀ o ∈ l.take (i + 1), Op7.valid o from fun h => by
          have hv := HV.out.2 h
          rw [HT.out, Op7.encs_snoc, HE.out hv, HM2.out, ← H.out.1]
          refine ⟨by simp, fun p hp => ?_⟩
          rcases List.mem_append.1 hp with hp | hp
          · exact H.out.2 p hp
          · rw [List.mem_singleton.1 hp]; exact hv)
        clear HV HE HM HT H HM2
        generalize hbb : o.b = ob at *
        clear hbb
        go_upto_region 8 with fail
        go_upto_region 9 with (go_at_call 25; refine HP.out.mono ?_; rintro e w5 ⟨A5, c5, M5, rfl, hM5, hO5, hg5⟩; replace hM5 := hid hM5)
        have HL5 := hid (show M5.length ≤ 5 * (i + 1) by rw [hM5.out, List.length_append, beI_len _ hx2.2, HM3.out]; omega)
        have HO5 := hid hO5
        have HG5 := hid hg5
        clear hO5 hg5 HP HC HO3 HG3 HM3
        cases is
        · have HR := hid (HNo.out (by simp))
          go_wp2_with fail
          go_ret2
          exact ⟨none, 0, [], by rw [HR.out]; rfl, by rw [HR.out], OwnNums.nil _ _ _ _, HG5.out⟩
        · cases fa
          · have HR := hid (HNo.out (by simp))
            go_wp2_with fail
            go_ret2
            exact ⟨none, 0, [], by rw [HR.out]; rfl, by rw [HR.out], OwnNums.nil _ _ _ _, HG5.out⟩
          · cases fb
            · have HR := hid (HNo.out (by simp))
              go_wp2_with fail
              go_ret2
              exact ⟨none, 0, [], by rw [HR.out]; rfl, by rw [HR.out], OwnNums.nil _ _ _ _, HG5.out⟩
            · have HR := hid (HYes.out ⟨rfl, rfl, rfl⟩)
              rw [← hM5.out] at HR
              clear HNo HYes hM5
              go_wp2_with fail
              go_round
              case rel => exact ⟨i + 1, A5, c5, M5, rfl, by go_num, by omega, HL5.out, HO5.out, HG5.out, HR⟩
              case measure => simp [intOf]; omega
    · have hin : i = n := by omega
      subst hin
      have HE := hid (show L = Op7.encs l ∧ ∀ o ∈ l, Op7.valid o by
        have := H.out
        rwa [List.take_of_length_le (by rw [← EN.out]; exact Nat.le_refl _)] at this)
      by_cases h5 : 512 < L.length
      · have f5 : (512 : Int) < L.length := by omega
        have HR := hid (show encR l = ([], 4) by unfold encR; rw [if_pos HE.out.2, ← HE.out.1, if_pos h5])
        go_wp2_with fail
        go_ret2
        exact ⟨none, 0, [], by rw [HR.out]; rfl, by rw [HR.out], OwnNums.nil _ _ _ _, HG.out⟩
      · have f5 : ¬ (512 : Int) < L.length := by omega
        have HR := hid (show encR l = (L, 0) by unfold encR; rw [if_pos HE.out.2, ← HE.out.1, if_neg h5])
        go_wp2_with fail
        go_ret2
        exact ⟨G, k, L, by rw [HR.out]; rfl, by rw [HR.out], HO.out, HG.out⟩
end Go.Proofs.YtjmlcplhilhkpaaDoor

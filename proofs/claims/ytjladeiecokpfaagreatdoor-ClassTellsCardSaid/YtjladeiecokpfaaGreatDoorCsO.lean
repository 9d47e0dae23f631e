/- Stage 10: areMethods. -/
import Derived.Test.YtjladeiecokpfaaGreatDoorCsN
namespace Go.Proofs.YtjladeiecokpfaaGreatDoor
open Go.RowKit

def mayM (ms : List MV) (k : Nat) (v n : Int) : Prop := match ms[k]? with
  | some u => Mt.May u.m v n
  | none => False
def selOf (ss : List ByteArray) (i : Int) : ByteArray := ss.getD i.toNat ⟨#[]⟩
/-- The methods of class number c. -/
def MethsOk (l : List Cs.Cls) (ms : List MV) (c : Nat) (x : Cs.Cls) : Prop :=
  (∀ i ∈ x.ms, mayM ms i.toNat (((Cs.names l ((c : Nat) : Int)).length : Nat) : Int) ((l.length : Nat) : Int)) ∧ (x.ms.map (selOf (sels ms))).Nodup
theorem meth_get {w wr : World} {ad : Addr} {l : List MV} (h : MethsAt w (some ad) l) (hg : Grew w wr) {i : Nat} {u : MV} (hu : l[i]? = some u) : wr.cell? (ad.add (i * 3)) = some (.string u.sel) ∧ wr.cell? ⟨ad.block, (ad.add (i * 3)).off + 1, none⟩ = some (.slice u.A1 u.lits.length u.c1) ∧ wr.cell? ⟨ad.block, (ad.add (i * 3)).off + 2, none⟩ = some (.slice u.A2 u.vs.length u.c2) ∧ ad.block < wr.heap.size ∧ MethAt wr u := by
  obtain ⟨ad', u', e, hu', h1⟩ := meth_at h hg (List.getElem?_eq_some_iff.1 hu).1
  obtain rfl := Option.some.inj e
  rw [hu] at hu'
  obtain rfl := Option.some.inj hu'
  exact h1
set_option maxRecDepth 100000 in
set_option maxHeartbeats 8000000 in
theorem areMethods_c (A : Option Addr) (cap : Nat) (l : List CV) (A2 : Option Addr) (c2 : Nat) (ms : List MV) (c : Nat) (v : CV) (hv : l[c]? = some v) (hms : ∀ i ∈ v.c.ms, isIdx i ms.length = true) (b : Bool) (hb : b = true ↔ MethsOk (cls l) ms c v.c) (w : World) (h : ClsAt w A l) (h2 : MethsAt w A2 ms) (hE : Env w) :
    Calls Tryz.prog 32 #[.slice A l.length cap, .slice A2 ms.length c2, .int .i64 ((c : Nat) : Int)] w fun e w' => e = .returned (.bool b) ∧ Grew w w' := by
  obtain ⟨ad, v', rfl, hv'⟩ := cv_some h.arg (i := c) (List.getElem?_eq_some_iff.1 hv).1
  rw [hv] at hv'
  obtain rfl := Option.some.inj hv'
  clear hv'
  have hcl := (List.getElem?_eq_some_iff.1 hv).1
  obtain ⟨n, en⟩ : ∃ n, n = l.length := ⟨_, rfl⟩
  obtain ⟨nm, em⟩ : ∃ nm, nm = ms.length := ⟨_, rfl⟩
  have HA := hid h
  have HM := hid h2
  have HB := hid hb
  have HEn := hid hE
  have HV := hid hv
  have HIx := hid hms
  have HC := hid (count_c (some ad) cap l ((c : Nat) : Int) w h)
  have hn : n ≤ 100 := by rw [en]; exact h.len
  have hcn : c < n := by omega
  have hci : (c : Int) < (n : Int) := by omega
  have hml : v.c.ms.length ≤ 100 := h.fit.ms _ (h.mem (List.mem_of_getElem? hv))
  rw [← en] at HC
  rw [← en, ← em]
  have EN := hid en
  have EM := hid em
  clear h h2 hb hE hv hms en em hcl
  obtain ⟨K, hK⟩ : ∃ K, K = (Cs.names (cls l) ((c : Nat) : Int)).length := ⟨_, rfl⟩
  rw [← hK] at HC
  have HKe := hid hK
  clear hK
  go_enter Tryz.func32, Tryz.ntmps32
  go_wp2_with fail
  refine HC.out.mono ?_
  rintro e w1 ⟨rfl, hg1⟩
  have HG1 := hid hg1
  obtain ⟨-, -, -, q3, hb2, hok⟩ := cv_get HA.out.arg hg1 HV.out
  have HMs := hid hok.ms
  clear hg1 hok HC
  obtain ⟨mm, emm⟩ : ∃ mm, mm = v.c.ms.length := ⟨_, rfl⟩
  rw [← emm] at q3 hml
  have EMM := hid emm
  clear emm
  go_wp2_with fail
  clear q3 hb2
  go_loopw [8, 10, 20] (fun s8 _ s20 wr => ∃ (i : Nat) (A' : Option Addr) (k' : Nat), s20 = .int .i64 ((i : Nat) : Int) ∧ i ≤ mm ∧ s8 = .slice A' i k' ∧ Hid (Row wr w1.heap.size 9 1 A' i k' (strV ((v.c.ms.take i).map (selOf (sels ms))))) ∧ Grew w1 wr ∧ Hid (∀ x ∈ v.c.ms.take i, mayM ms x.toNat ((K : Nat) : Int) ((n : Nat) : Int))) (fun _ _ s20 _ => mm - (intOf s20).toNat)
  case atStart => exact ⟨0, none, 0, rfl, Nat.zero_le _, rfl, hid (Row.nil _ _ _ _), Grew.refl _, hid (by simp)⟩
  case round =>
    obtain ⟨i, A', k', rfl, hi, rfl, HR, hg, HO⟩ := hrel
    have HG := hid hg
    clear hg
    by_cases hlt : i < mm
    · have f1 : (i : Int) < mm := by omega
      obtain ⟨a3, z, e3, hz, q0, hb3⟩ := int_at HMs.out HG.out (i := i) (by rw [← EMM.out]; exact hlt)
      have hzi := isIdx_iff.1 (HIx.out z (List.mem_of_getElem? hz))
      obtain ⟨k, rfl⟩ : ∃ k : Nat, z = k := ⟨z.toNat, by omega⟩
      have hkn : k < nm := by rw [EM.out]; omega
      have hki : (k : Int) < (nm : Int) := by omega
      obtain ⟨a4, u, rfl, hu, r0, r1, r2, hb4, hmo⟩ := meth_at HM.out (HG1.out.trans HG.out) (i := k) (by rw [← EM.out]; exact hkn)
      rw [e3]
      have HMo := hid hmo
      obtain ⟨bm, hbm⟩ : ∃ d : Bool, d = true ↔ Mt.May u.m ((K : Nat) : Int) ((n : Nat) : Int) := ⟨tru _, tru_iff _⟩
      have HCk := hid (fun (W : World) (hW : Grew _ W) => check9_c u ((K : Nat) : Int) ((n : Nat) : Int) bm hbm W (hmo.grew hW) (HEn.out.grew ((HG1.out.trans HG.out).trans hW)))
      have HU := hid hu
      have HZ := hid hz
      have HBm := hid hbm
      clear hz hu hmo hbm hzi
      unfold mvCells at HCk
      have HSel := hid (show selOf (sels ms) ((k : Nat) : Int) = u.sel by
        unfold selOf
        rw [Int.toNat_natCast, List.getD_eq_getElem?_getD, sels_at HU.out]
        rfl)
      have HMay := hid (show mayM ms ((k : Nat) : Int).toNat ((K : Nat) : Int) ((n : Nat) : Int) ↔ bm = true by
        rw [Int.toNat_natCast, HBm.out]
        unfold mayM
        rw [HU.out])
      have HMem := hid (show ((k : Nat) : Int) ∈ v.c.ms from List.mem_of_getElem? HZ.out)
      cases bm
      · rw [show ckVal false = .iface 75 (.int .i64 8) from rfl] at HCk
        have HF := hid (show b = false by
          rw [← Bool.not_eq_true, HB.out]
          rintro ⟨h1, _⟩
          have h2 := h1 _ HMem.out
          rw [← HKe.out, cls_len, ← EN.out] at h2
          have := HMay.out.1 h2
          cases this)
        clear HMay HBm
        go_wp2_with fail
        refine (HCk.out _ (Grew.refl _)).mono ?_
        rintro e w3 ⟨rfl, hg3⟩
        have HG3 := hid hg3
        clear hg3 r0 r1 r2 hb4 q0 hb3
        go_wp2_with fail
        go_ret
        exact ⟨by rw [HF.out]; rfl, HG1.out.trans (HG.out.trans HG3.out)⟩
      · rw [show ckVal true = .nilIface from rfl] at HCk
        have HO2 := hid (show ∀ x ∈ v.c.ms.take (i + 1), mayM ms x.toNat ((K : Nat) : Int) ((n : Nat) : Int) by
          rw [List.take_add_one, HZ.out]
          intro x hx
          rcases List.mem_append.1 hx with hx | hx
          · exact HO.out x hx
          · have e : x = ((k : Nat) : Int) := by simpa using hx
            rw [e]
            exact HMay.out.2 rfl)
        have HNx := hid (show strV ((v.c.ms.take (i + 1)).map (selOf (sels ms))) = strV ((v.c.ms.take i).map (selOf (sels ms))) ++ [.string u.sel] by
          rw [List.take_add_one, HZ.out, List.map_append]
          show strV (_ ++ [selOf (sels ms) ((k : Nat) : Int)]) = _
          rw [HSel.out]
          simp [strV])
        clear HMay HBm
        go_wp2_with fail
        refine (HCk.out _ (Grew.refl _)).mono ?_
        rintro e w3 ⟨rfl, hg3⟩
        have HG3 := hid (HG.out.trans hg3)
        have HR3 := hid (HR.out.grew hg3)
        clear hg3 r0 r1 r2 hb4 q0 hb3
        obtain ⟨r0, -, -, hb4, -⟩ := meth_get HM.out (HG1.out.trans HG3.out) HU.out
        go_wp2_with (at_builtin; refine wpList_pushR (.string ⟨#[]⟩) 16 w3 rfl _ _ 42 9 rfl Tryz.underlying42 str_info10 rfl w1.heap.size HG3.out.below.size A' i k' _ rfl HR3.out _ rfl rfl (.string u.sel) rfl (by omega) (by omega) ?_; rintro A8 k8 w8 hR8 hK8 hT8; have HR8 := hid hR8; have HG8 := hid (hK8.grew HG3.out (Row.at_base HR3.out)); clear hR8 hK8 hT8)
        go_round
        case rel => exact ⟨i + 1, A8, k8, by go_num, by omega, rfl, hid (by rw [HNx.out]; exact HR8.out), HG8.out, HO2⟩
        case measure => simp [intOf]; omega
    · have hin : i = mm := by omega
      subst hin
      have hall : v.c.ms.take i = v.c.ms := List.take_of_length_le (by rw [← EMM.out]; exact Nat.le_refl _)
      have hrow := HR.out
      have hO := HO.out
      rw [hall] at hrow hO
      have hnl : (v.c.ms.map (selOf (sels ms))).length = i := by rw [List.length_map, EMM.out]
      obtain ⟨d, hd⟩ : ∃ d : Bool, d = true ↔ (v.c.ms.map (selOf (sels ms))).Nodup := ⟨tru _, tru_iff _⟩
      have HD := hid (disStr_c A' k' (v.c.ms.map (selOf (sels ms))) d hd wr (row_strs hrow hnl.symm) (by rw [hnl]; omega) (fun s hs => by
        obtain ⟨x, hx, rfl⟩ := List.mem_map.1 hs
        have h1 := isIdx_iff.1 (HIx.out x hx)
        obtain ⟨y, hy⟩ : ∃ y, ms[x.toNat]? = some y := ⟨_, List.getElem?_eq_getElem (by omega)⟩
        have e : selOf (sels ms) x = y.sel := by unfold selOf; rw [List.getD_eq_getElem?_getD, sels_at hy]; rfl
        rw [e]
        exact (HM.out.ok y (List.mem_of_getElem? hy)).sel))
      rw [hnl] at HD
      have HE := hid (show b = d by
        rw [Bool.eq_iff_iff, HB.out, hd]
        unfold MethsOk
        rw [← HKe.out, cls_len, ← EN.out]
        exact ⟨fun hh => hh.2, fun hh => ⟨hO, hh⟩⟩)
      clear hall hrow hO hnl hd
      go_wp2_with fail
      refine HD.out.mono ?_
      rintro e w9 ⟨rfl, hg9⟩
      have HG9 := hid (HG.out.trans hg9)
      clear hg9
      go_wp2_with fail
      go_ret
      exact ⟨by rw [HE.out]; rfl, HG1.out.trans HG9.out⟩
end Go.Proofs.YtjladeiecokpfaaGreatDoor

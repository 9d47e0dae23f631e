/- The walks of law 07: giveOps. -/
import Derived.Test.YtjmlcplhilhkpaaDoorOp16
namespace Go.Proofs.YtjmlcplhilhkpaaDoor
open Go.RowKit

def GivePost (w : World) (l : List Op7.Ins) (e : Ending) (w' : World) : Prop :=
  ∃ A' c' L, e = .returned (.slice A' (List.length L) c') ∧ L = l ∧ RowI 51 w' w.heap.size A' c' L ∧ Grew w w'
set_option maxRecDepth 100000 in
set_option maxHeartbeats 2000000 in
theorem giveOps_c (A : Option Addr) (c : Nat) (l : List Op7.Ins) (w : World) (h : OpsAt w w.heap.size A l) (hl : l.length ≤ 1000000) :
    Calls Tryd.prog 9 #[.slice A l.length c] w (GivePost w l) := by
  have HA := hid h
  obtain ⟨n, en⟩ : ∃ n, n = l.length := ⟨_, rfl⟩
  rw [← en] at hl ⊢
  have EN := hid en
  clear h en
  go_enter Tryd.func9, Tryd.ntmps9
  go_wp2_with fail
  go_loopw [3, 4] (fun s3 s4 wr => ∃ (i : Nat) (G : Option Addr) (k : Nat) (L : List Op7.Ins), s3 = .slice G L.length k ∧ s4 = .int .i64 ((i : Nat) : Int) ∧ i ≤ n ∧ L.length ≤ i ∧ Grew w wr ∧ Hid (RowI 51 wr w.heap.size G k L ∧ L = l.take i)) (fun _ s4 _ => n - (intOf s4).toNat)
  case atStart => exact ⟨0, none, 0, [], rfl, rfl, Nat.zero_le _, Nat.zero_le _, Grew.refl _, hid ⟨RowI.nil _ _ _, rfl⟩⟩
  case round =>
    obtain ⟨i, G, k, L, rfl, rfl, hi, hL, hg, H⟩ := hrel
    have HG := hid hg
    clear hg
    by_cases hlt : i < n
    · have f1 : (i : Int) < n := by omega
      obtain ⟨ad, rfl, hb, hc⟩ := HA.out.2 (by rw [← EN.out]; omega)
      obtain ⟨o, ho⟩ : ∃ o, l[i]? = some o := ⟨_, List.getElem?_eq_getElem (show i < l.length by rw [← EN.out]; exact hlt)⟩
      have HX := hid (show l.take (i + 1) = l.take i ++ [o] by rw [List.take_add_one, ho]; rfl)
      have HC := hid (HA.out.1 o (List.mem_of_getElem? ho))
      have hcc := hc i o ho
      obtain ⟨q0, q1, q2⟩ := op_cell (o := o) (i := i) (ad := ad) (w := wr) fun j u hu => by rw [HG.out.below.cell (by rw [block_add]; exact hb)]; exact hcc j u hu
      clear hcc hc ho hb
      go_wp2_with (at_builtin; refine wpList_pushI 29 51 (.agg #[.int .u8 0, .int .i64 0, .int .i64 0]) rfl Tryd.underlying29 op_ins wr rfl _ _ rfl w.heap.size HG.out.below.size G k L rfl H.out.1 o HC.out _ rfl rfl _ rfl (by omega) ?_; rintro A4 c4 M4 W4 hM4 hO4 hK4 hT4; have HK4 := hid hK4; have HO4 := hid hO4; clear hK4 hT4 hO4)
      go_round
      case rel => exact ⟨i + 1, A4, c4, M4, rfl, by go_num, by omega, by rw [hM4.out, List.length_append]; simp; omega, HK4.out.grew HG.out (Row.at_base H.out.1.1), hid ⟨HO4.out, by rw [hM4.out, HX.out, H.out.2]⟩⟩
      case measure => simp [intOf]; omega
    · have hin : i = n := by omega
      subst hin
      have HL := hid (show L = l by
        have := H.out.2
        rwa [List.take_of_length_le (by rw [← EN.out]; exact Nat.le_refl _)] at this)
      go_wp2_with fail
      go_ret
      exact ⟨G, k, L, rfl, HL.out, H.out.1, HG.out⟩
end Go.Proofs.YtjmlcplhilhkpaaDoor

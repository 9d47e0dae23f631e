/- Stage 10: giveMethods. -/
import Derived.Test.YtjladeiecokpfaaGreatDoorCsT
namespace Go.Proofs.YtjladeiecokpfaaGreatDoor
open Go.RowKit

def mvF (u : MV) : List Value := [.string u.sel, .slice u.A1 u.lits.length u.c1, .slice u.A2 u.vs.length u.c2]
theorem mvF_len (u : MV) : (mvF u).length = 3 := rfl
theorem mvF_one (v : MV) : ∀ u ∈ mvF v, u.oneCell' = true := by
  intro u hu
  simp only [mvF, List.mem_cons, List.not_mem_nil, or_false] at hu
  rcases hu with rfl | rfl | rfl <;> rfl
theorem meth_info : (Tryz.prog.info? 55).map (fun i => (i.zero, i.size, i.bytes)) = some (some (.agg #[.string ⟨#[]⟩, .slice none 0 0, .slice none 0 0]), 3, 64) := by kernel_rfl
theorem LitsAt.kept {F : Nat → Prop} {w w' : World} {A : Option Addr} {l : List Mt.Lit} (h : LitsAt w A l) (hk : Kept F w w') (hF : ∀ ad, A = some ad → ¬ F ad.block) : LitsAt w' A l := ⟨h.1, fun hl => by
  obtain ⟨ad, h1, h2, h3⟩ := h.2 hl
  exact ⟨ad, h1, Nat.lt_of_lt_of_le h2 hk.size, fun i x hi j u hu => (hk.cell (p := ad.add (i * 2 + j)) (by rw [block_add]; exact h2) (by rw [block_add]; exact hF ad h1)).trans (h3 i x hi j u hu)⟩⟩
theorem PartsAt.kept {F : Nat → Prop} {w w' : World} {A : Option Addr} {l : List PV} (h : PartsAt w A l) (hk : Kept F w w') (hF : ∀ ad, A = some ad → ¬ F ad.block) (hF2 : ∀ v ∈ l, ∀ ad, v.A = some ad → ¬ F ad.block) : PartsAt w' A l := ⟨fun v hv => (h.1 v hv).kept9 hk (hF2 v hv), fun hl => by
  obtain ⟨ad, h1, h2, h3⟩ := h.2 hl
  exact ⟨ad, h1, Nat.lt_of_lt_of_le h2 hk.size, fun i x hi j u hu => (hk.cell (p := ad.add (i * 4 + j)) (by rw [block_add]; exact h2) (by rw [block_add]; exact hF ad h1)).trans (h3 i x hi j u hu)⟩⟩
theorem MethAt.kept {F : Nat → Prop} {w w' : World} {u : MV} (h : MethAt w u) (hk : Kept F w w') (hF : ∀ k, MBlk u k → ¬ F k) : MethAt w' u :=
  ⟨h.sel, h.lits.kept hk (fun ad e => hF _ (.inl ⟨ad, e, rfl⟩)), h.l1, h.parts.kept hk (fun ad e => hF _ (.inr (.inl ⟨ad, e, rfl⟩))) (fun v hv ad e => hF _ (.inr (.inr ⟨v, hv, ad, e, rfl⟩))), h.l2⟩
/-- Methods in a row of the call's own, each apart from it. -/
structure OwnM (w : World) (B : Nat) (A : Option Addr) (n c : Nat) (us : List MV) : Prop where
  row : Row w B 55 3 A n c (us.flatMap mvF)
  len : n = us.length
  ok : ∀ u ∈ us, MethAt w u
  low : ∀ u ∈ us, ∀ k, MBlk u k → ¬ AtRow A k ∧ k < w.heap.size
theorem OwnM.nil (w : World) (B : Nat) : OwnM w B none 0 0 [] := ⟨Row.nil _ _ _ _, rfl, by simp, by simp⟩
theorem OwnM.grew {w w' : World} {B : Nat} {A : Option Addr} {n c : Nat} {us : List MV} (h : OwnM w B A n c us) (hg : Grew w w') : OwnM w' B A n c us :=
  ⟨h.row.grew hg, h.len, fun v hv => (h.ok v hv).grew hg, fun v hv k e => ⟨(h.low v hv k e).1, Nat.lt_of_lt_of_le (h.low v hv k e).2 hg.below.size⟩⟩
theorem OwnM.at {w : World} {B : Nat} {A : Option Addr} {n c : Nat} {us : List MV} (h : OwnM w B A n c us) (hl : us.length ≤ 100) : MethsAt w A us := by
  refine ⟨h.ok, hl, fun hp => ?_⟩
  rcases Row.cases h.row with ⟨h1, _, _, ⟨rfl, h2, _⟩ | ⟨g, rfl, hb, hlt, hc, _⟩⟩
  · have := h.len; omega
  · refine ⟨_, rfl, hlt, fun i v hi j u hu => ?_⟩
    rw [show (⟨g, 0, none⟩ : Addr).add (i * 3 + j) = ⟨g, i * 3 + j, none⟩ by unfold Addr.add; split <;> simp_all]
    refine hc (i * 3 + j) u (flat_at mvF 3 mvF_len us i v hi j u ?_)
    rw [show mvCells v = (mvF v).toArray from rfl, List.getElem?_toArray] at hu
    exact hu
/-- One more behind. -/
theorem OwnM.app {w w' : World} {B : Nat} {A A' : Option Addr} {n c c' : Nat} {us : List MV} {y : MV} (h : OwnM w B A n c us) (hr : Row w' B 55 3 A' (n + 1) c' (us.flatMap mvF ++ mvF y)) (hk : Kept (AtRow A) w w') (ht : RowTo w A A') (hy : MethAt w y) (hA : ∀ k, MBlk y k → ¬ AtRow A k ∧ k < w.heap.size) : OwnM w' B A' (n + 1) c' (us ++ [y]) := by
  have hlow : ∀ v ∈ us ++ [y], ∀ k, MBlk v k → ¬ AtRow A k ∧ k < w.heap.size := fun v hv k e => by
    rcases List.mem_append.1 hv with hv | hv
    · exact h.low v hv k e
    · obtain rfl := List.mem_singleton.1 hv
      exact hA k e
  have hok : ∀ v ∈ us ++ [y], MethAt w v := fun v hv => by
    rcases List.mem_append.1 hv with hv | hv
    · exact h.ok v hv
    · obtain rfl := List.mem_singleton.1 hv
      exact hy
  refine ⟨by rw [List.flatMap_append]; simpa using hr, by rw [List.length_append, ← h.len]; rfl, fun v hv => (hok v hv).kept hk (fun k e => (hlow v hv k e).1), fun v hv k e => ?_⟩
  obtain ⟨h1, h2⟩ := hlow v hv k e
  refine ⟨fun hq => ?_, Nat.lt_of_lt_of_le h2 hk.size⟩
  rcases ht with h3 | ⟨g, e1, e2⟩
  · rw [h3] at hq; exact h1 hq
  · rw [e1] at hq
    obtain ⟨ad', e3, e4⟩ := hq
    cases e3
    simp only at e4
    omega
/-- What 'giveMethods' answers. -/
def GiveM (w : World) (l : List MV) (e : Ending) (w' : World) : Prop := ∃ (us : List MV) (A : Option Addr) (c : Nat), e = .returned (.slice A us.length c) ∧ us.map (·.m) = l.map (·.m) ∧ MethsAt w' A us ∧ Grew w w'
set_option maxRecDepth 100000 in
set_option maxHeartbeats 8000000 in
theorem giveMethods_c (A : Option Addr) (cap : Nat) (l : List MV) (w : World) (h : MethsAt w A l) :
    Calls Tryz.prog 10 #[.slice A l.length cap] w (GiveM w l) := by
  obtain ⟨n, en⟩ : ∃ n, n = l.length := ⟨_, rfl⟩
  have HA := hid h
  have hn : n ≤ 100 := by rw [en]; exact h.len
  rw [← en]
  have EN := hid en
  clear h en
  go_enter Tryz.func10, Tryz.ntmps10
  go_wp2_with fail
  go_loopw [3, 4] (fun s3 s4 wr => ∃ (i : Nat) (A' : Option Addr) (k' : Nat) (us : List MV), s4 = .int .i64 ((i : Nat) : Int) ∧ i ≤ n ∧ s3 = .slice A' i k' ∧ Hid (OwnM wr w.heap.size A' i k' us) ∧ Hid (us.map (·.m) = (l.take i).map (·.m)) ∧ Grew w wr) (fun _ s4 _ => n - (intOf s4).toNat)
  case atStart => exact ⟨0, none, 0, [], rfl, Nat.zero_le _, rfl, hid (OwnM.nil _ _), hid rfl, Grew.refl _⟩
  case round =>
    obtain ⟨i, A', k', us, rfl, hi, rfl, HR, HV, hg⟩ := hrel
    have HG := hid hg
    clear hg
    by_cases hlt : i < n
    · have f1 : (i : Int) < n := by omega
      obtain ⟨ad, u, rfl, hu, p0, p1, p2, hb1, hmo⟩ := meth_at HA.out HG.out (i := i) (by rw [← EN.out]; exact hlt)
      have HNx := hid (show (l.take (i + 1)).map (·.m) = (l.take i).map (·.m) ++ [u.m] by rw [List.take_add_one, hu, List.map_append]; rfl)
      have HGv := hid (giveMethod_cN u wr hmo)
      clear hu hmo
      unfold mvCells at HGv
      go_wp2_with fail
      refine HGv.out.mono ?_
      rintro e w3 ⟨y, rfl, hym, hya, hg3, hyn⟩
      have HYm := hid hym
      have HYa := hid (hya.grew ((Grew.refl w3).alloc (.cells (mvCells y) 55)))
      have HYn := hid hyn
      have HR3 := hid (HR.out.grew (hg3.trans ((Grew.refl w3).alloc (.cells (mvCells y) 55))))
      have HG3 := hid (HG.out.trans (hg3.trans ((Grew.refl w3).alloc (.cells (mvCells y) 55))))
      have HBn := hid (Blk.new w3 55 (mvCells y))
      have HLow := hid (show ∀ k, AtRow A' k → k < wr.heap.size from fun k hk => Row.at_lt HR.out.row k hk)
      have HS3 := hid (show w3.heap.size ≤ (w3.alloc (.cells (mvCells y) 55)).heap.size from ((Grew.refl w3).alloc _).below.size)
      unfold mvCells at HYa HR3 HG3 HBn HS3 ⊢
      clear hym hya hg3 hyn p0 p1 p2 hb1 HGv
      go_wp2_with (at_builtin; generalize w3.alloc (Obj.cells #[.string y.sel, .slice y.A1 y.lits.length y.c1, .slice y.A2 y.vs.length y.c2] 55) = w4 at *; refine wpList_catR (.agg #[.string ⟨#[]⟩, .slice none 0 0, .slice none 0 0]) 3 64 w4 rfl _ _ 30 55 rfl Tryz.underlying30 meth_info rfl (by decide) w.heap.size HG3.out.below.size A' i k' _ rfl HR3.out.row (some ⟨w3.heap.size, 0, none⟩) 1 1 (mvF y) rfl rfl (mvF_one y) (by intro e; cases e) (blk_row HBn.out) (by omega) (by omega) ?_; rintro A8 k8 w8 hR8 hK8 hT8; have HR8 := hid (HR3.out.app hR8 hK8 hT8 HYa.out (fun k e => ⟨fun hk => by have h1 := HLow.out _ hk; have h2 := (HYn.out k e).1; omega, Nat.lt_of_lt_of_le (HYn.out k e).2 HS3.out⟩)); have HG8 := hid (hK8.grew HG3.out (Row.at_base HR3.out.row)); clear hR8 hK8 hT8)
      go_round
      case rel => exact ⟨i + 1, A8, k8, us ++ [y], by go_num, by omega, rfl, HR8, hid (by rw [List.map_append, HV.out, HNx.out, ← HYm.out]; rfl), HG8.out⟩
      case measure => simp [intOf]; omega
    · have hin : i = n := by omega
      subst hin
      have HE := hid (show us.map (·.m) = l.map (·.m) by rw [HV.out, List.take_of_length_le (by rw [← EN.out]; exact Nat.le_refl _)])
      have HL := hid (HR.out.len)
      go_wp2_with fail
      go_ret
      exact ⟨us, A', k', by rw [← HL.out]; rfl, HE.out, HR.out.at (by rw [← HL.out]; exact hn), HG.out⟩
end Go.Proofs.YtjladeiecokpfaaGreatDoor

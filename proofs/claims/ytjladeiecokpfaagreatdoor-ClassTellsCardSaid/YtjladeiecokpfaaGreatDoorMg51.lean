/- Texts of this claim in one: CsU CsV CsW CsX Finds10. -/
import Derived.Test.YtjladeiecokpfaaGreatDoorCsT
import Derived.Test.YtjladeiecokpfaaGreatDoorZNum
section
/- Stage 10: giveMethods. -/
namespace Go.Proofs.YtjladeiecokpfaaGreatDoor
open Go.RowKit

def mvF (u : MV) : List Value := [.string u.sel, .slice u.A1 u.lits.length u.c1, .slice u.A2 u.vs.length u.c2]
theorem mvF_len (u : MV) : (mvF u).length = 3 := rfl
theorem mvF_one (v : MV) : ∀ u ∈ mvF v, u.oneCell' = true := by
  intro u hu
  simp only [mvF, List.mem_cons, List.not_mem_nil, or_false] at hu
  rcases hu with rfl | rfl | rfl <;> rfl
theorem meth_info : (Tryz.prog.info? 55).map (fun i => (i.zero, i.size, i.bytes)) = some (some (.agg #[.string ⟨#[]⟩, .slice none 0 0, .slice none 0 0]), 3, 64) := by kernel_rfl
theorem LitsAt.kept {F : Nat → Prop} {w w' : World} {A : Option Addr} {l : List Mt.Lit} (h : LitsAt w A l) (hk : Kept F w w') (hF : ∀ ad, A = some ad → ¬ F ad.block) : LitsAt w' A l := ⟨h.1, fun hl => by
  obtain ⟨ad, h1, h2, h3⟩ := h.2 hl
  exact ⟨ad, h1, Nat.lt_of_lt_of_le h2 hk.size, fun i x hi j u hu => (hk.cell (p := ad.add (i * 2 + j)) (by rw [block_add]; exact h2) (by rw [block_add]; exact hF ad h1)).trans (h3 i x hi j u hu)⟩⟩
theorem PartsAt.kept {F : Nat → Prop} {w w' : World} {A : Option Addr} {l : List PV} (h : PartsAt w A l) (hk : Kept F w w') (hF : ∀ ad, A = some ad → ¬ F ad.block) (hF2 : ∀ v ∈ l, ∀ ad, v.A = some ad → ¬ F ad.block) : PartsAt w' A l := ⟨fun v hv => (h.1 v hv).kept9 hk (hF2 v hv), fun hl => by
  obtain ⟨ad, h1, h2, h3⟩ := h.2 hl
  exact ⟨ad, h1, Nat.lt_of_lt_of_le h2 hk.size, fun i x hi j u hu => (hk.cell (p := ad.add (i * 4 + j)) (by rw [block_add]; exact h2) (by rw [block_add]; exact hF ad h1)).trans (h3 i x hi j u hu)⟩⟩
theorem MethAt.kept {F : Nat → Prop} {w w' : World} {u : MV} (h : MethAt w u) (hk : Kept F w w') (hF : ∀ k, MBlk u k → ¬ F k) : MethAt w' u :=
  ⟨h.sel, h.lits.kept hk (fun ad e => hF _ (.inl ⟨ad, e, rfl⟩)), h.l1, h.parts.kept hk (fun ad e => hF _ (.inr (.inl ⟨ad, e, rfl⟩))) (fun v hv ad e => hF _ (.inr (.inr ⟨v, hv, ad, e, rfl⟩))), h.l2⟩
/-- Methods in a row of the call's own, each apart from it. -/
structure OwnM (w : World) (B : Nat) (A : Option Addr) (n c : Nat) (us : List MV) : Prop where
  row : Row w B 55 3 A n c (us.flatMap mvF)
  len : n = us.length
  ok : ∀ u ∈ us, MethAt w u
  low : ∀ u ∈ us, ∀ k, MBlk u k → ¬ AtRow A k ∧ k < w.heap.size
theorem OwnM.nil (w : World) (B : Nat) : OwnM w B none 0 0 [] := ⟨Row.nil _ _ _ _, rfl, by simp, by simp⟩
theorem OwnM.grew {w w' : World} {B : Nat} {A : Option Addr} {n c : Nat} {us : List MV} (h : OwnM w B A n c us) (hg : Grew w w') : OwnM w' B A n c us :=
  ⟨h.row.grew hg, h.len, fun v hv => (h.ok v hv).grew hg, fun v hv k e => ⟨(h.low v hv k e).1, Nat.lt_of_lt_of_le (h.low v hv k e).2 hg.below.size⟩⟩
theorem OwnM.at {w : World} {B : Nat} {A : Option Addr} {n c : Nat} {us : List MV} (h : OwnM w B A n c us) (hl : us.length ≤ 100) : MethsAt w A us := by
  refine ⟨h.ok, hl, fun hp => ?_⟩
  rcases Row.cases h.row with ⟨h1, _, _, ⟨rfl, h2, _⟩ | ⟨g, rfl, hb, hlt, hc, _⟩⟩
  · have := h.len; omega
  · refine ⟨_, rfl, hlt, fun i v hi j u hu => ?_⟩
    rw [show (⟨g, 0, none⟩ : Addr).add (i * 3 + j) = ⟨g, i * 3 + j, none⟩ by unfold Addr.add; split <;> simp_all]
    refine hc (i * 3 + j) u (flat_at mvF 3 mvF_len us i v hi j u ?_)
    rw [show mvCells v = (mvF v).toArray from rfl, List.getElem?_toArray] at hu
    exact hu
/-- One more behind. -/
theorem OwnM.app {w w' : World} {B : Nat} {A A' : Option Addr} {n c c' : Nat} {us : List MV} {y : MV} (h : OwnM w B A n c us) (hr : Row w' B 55 3 A' (n + 1) c' (us.flatMap mvF ++ mvF y)) (hk : Kept (AtRow A) w w') (ht : RowTo w A A') (hy : MethAt w y) (hA : ∀ k, MBlk y k → ¬ AtRow A k ∧ k < w.heap.size) : OwnM w' B A' (n + 1) c' (us ++ [y]) := by
  have hlow : ∀ v ∈ us ++ [y], ∀ k, MBlk v k → ¬ AtRow A k ∧ k < w.heap.size := fun v hv k e => by
    rcases List.mem_append.1 hv with hv | hv
    · exact h.low v hv k e
    · obtain rfl := List.mem_singleton.1 hv
      exact hA k e
  have hok : ∀ v ∈ us ++ [y], MethAt w v := fun v hv => by
    rcases List.mem_append.1 hv with hv | hv
    · exact h.ok v hv
    · obtain rfl := List.mem_singleton.1 hv
      exact hy
  refine ⟨by rw [List.flatMap_append]; simpa using hr, by rw [List.length_append, ← h.len]; rfl, fun v hv => (hok v hv).kept hk (fun k e => (hlow v hv k e).1), fun v hv k e => ?_⟩
  obtain ⟨h1, h2⟩ := hlow v hv k e
  refine ⟨fun hq => ?_, Nat.lt_of_lt_of_le h2 hk.size⟩
  rcases ht with h3 | ⟨g, e1, e2⟩
  · rw [h3] at hq; exact h1 hq
  · rw [e1] at hq
    obtain ⟨ad', e3, e4⟩ := hq
    cases e3
    simp only at e4
    omega
/-- What 'giveMethods' answers. -/
def GiveM (w : World) (l : List MV) (e : Ending) (w' : World) : Prop := ∃ (us : List MV) (A : Option Addr) (c : Nat), e = .returned (.slice A us.length c) ∧ us.map (·.m) = l.map (·.m) ∧ MethsAt w' A us ∧ Grew w w'
set_option maxRecDepth 100000 in
set_option maxHeartbeats 8000000 in
theorem giveMethods_c (A : Option Addr) (cap : Nat) (l : List MV) (w : World) (h : MethsAt w A l) :
    Calls Tryz.prog 10 #[.slice A l.length cap] w (GiveM w l) := by
  obtain ⟨n, en⟩ : ∃ n, n = l.length := ⟨_, rfl⟩
  have HA := hid h
  have hn : n ≤ 100 := by rw [en]; exact h.len
  rw [← en]
  have EN := hid en
  clear h en
  go_enter Tryz.func10, Tryz.ntmps10
  go_wp2_with fail
  go_loopw [3, 4] (fun s3 s4 wr => ∃ (i : Nat) (A' : Option Addr) (k' : Nat) (us : List MV), s4 = .int .i64 ((i : Nat) : Int) ∧ i ≤ n ∧ s3 = .slice A' i k' ∧ Hid (OwnM wr w.heap.size A' i k' us) ∧ Hid (us.map (·.m) = (l.take i).map (·.m)) ∧ Grew w wr) (fun _ s4 _ => n - (intOf s4).toNat)
  case atStart => exact ⟨0, none, 0, [], rfl, Nat.zero_le _, rfl, hid (OwnM.nil _ _), hid rfl, Grew.refl _⟩
  case round =>
    obtain ⟨i, A', k', us, rfl, hi, rfl, HR, HV, hg⟩ := hrel
    have HG := hid hg
    clear hg
    by_cases hlt : i < n
    · have f1 : (i : Int) < n := by omega
      obtain ⟨ad, u, rfl, hu, p0, p1, p2, hb1, hmo⟩ := meth_at HA.out HG.out (i := i) (by rw [← EN.out]; exact hlt)
      have HNx := hid (show (l.take (i + 1)).map (·.m) = (l.take i).map (·.m) ++ [u.m] by rw [List.take_add_one, hu, List.map_append]; rfl)
      have HGv := hid (giveMethod_cN u wr hmo)
      clear hu hmo
      unfold mvCells at HGv
      go_wp2_with fail
      refine HGv.out.mono ?_
      rintro e w3 ⟨y, rfl, hym, hya, hg3, hyn⟩
      have HYm := hid hym
      have HYa := hid (hya.grew ((Grew.refl w3).alloc (.cells (mvCells y) 55)))
      have HYn := hid hyn
      have HR3 := hid (HR.out.grew (hg3.trans ((Grew.refl w3).alloc (.cells (mvCells y) 55))))
      have HG3 := hid (HG.out.trans (hg3.trans ((Grew.refl w3).alloc (.cells (mvCells y) 55))))
      have HBn := hid (Blk.new w3 55 (mvCells y))
      have HLow := hid (show ∀ k, AtRow A' k → k < wr.heap.size from fun k hk => Row.at_lt HR.out.row k hk)
      have HS3 := hid (show w3.heap.size ≤ (w3.alloc (.cells (mvCells y) 55)).heap.size from ((Grew.refl w3).alloc _).below.size)
      unfold mvCells at HYa HR3 HG3 HBn HS3 ⊢
      clear hym hya hg3 hyn p0 p1 p2 hb1 HGv
      go_wp2_with (at_builtin; generalize w3.alloc (Obj.cells #[.string y.sel, .slice y.A1 y.lits.length y.c1, .slice y.A2 y.vs.length y.c2] 55) = w4 at *; refine wpList_catR (.agg #[.string ⟨#[]⟩, .slice none 0 0, .slice none 0 0]) 3 64 w4 rfl _ _ 30 55 rfl Tryz.underlying30 meth_info rfl (by decide) w.heap.size HG3.out.below.size A' i k' _ rfl HR3.out.row (some ⟨w3.heap.size, 0, none⟩) 1 1 (mvF y) rfl rfl (mvF_one y) (by intro e; cases e) (blk_row HBn.out) (by omega) (by omega) ?_; rintro A8 k8 w8 hR8 hK8 hT8; have HR8 := hid (HR3.out.app hR8 hK8 hT8 HYa.out (fun k e => ⟨fun hk => by have h1 := HLow.out _ hk; have h2 := (HYn.out k e).1; omega, Nat.lt_of_lt_of_le (HYn.out k e).2 HS3.out⟩)); have HG8 := hid (hK8.grew HG3.out (Row.at_base HR3.out.row)); clear hR8 hK8 hT8)
      go_round
      case rel => exact ⟨i + 1, A8, k8, us ++ [y], by go_num, by omega, rfl, HR8, hid (by rw [List.map_append, HV.out, HNx.out, ← HYm.out]; rfl), HG8.out⟩
      case measure => simp [intOf]; omega
    · have hin : i = n := by omega
      subst hin
      have HE := hid (show us.map (·.m) = l.map (·.m) by rw [HV.out, List.take_of_length_le (by rw [← EN.out]; exact Nat.le_refl _)])
      have HL := hid (HR.out.len)
      go_wp2_with fail
      go_ret
      exact ⟨us, A', k', by rw [← HL.out]; rfl, HE.out, HR.out.at (by rw [← HL.out]; exact hn), HG.out⟩
end Go.Proofs.YtjladeiecokpfaaGreatDoor
end

section
/- Stage 10: bigClasses. -/
namespace Go.Proofs.YtjladeiecokpfaaGreatDoor
open Go.RowKit

/-- Methods that came in. -/
structure MethsArg (w : World) (A : Option Addr) (l : List MV) : Prop where
  ok : ∀ u ∈ l, MethArg w u
  cells : 0 < l.length → ∃ ad, A = some ad ∧ ad.block < w.heap.size ∧ ∀ i u, l[i]? = some u → ∀ j x, (mvCells u)[j]? = some x → w.cell? (ad.add (i * 3 + j)) = some x
theorem MethsArg.grew {w w' : World} {A : Option Addr} {l : List MV} (h : MethsArg w A l) (hg : Grew w w') : MethsArg w' A l := ⟨fun v hv => (h.ok v hv).grew hg, fun hl => by
  obtain ⟨ad, h1, h2, h3⟩ := h.cells hl
  exact ⟨ad, h1, Nat.lt_of_lt_of_le h2 hg.below.size, fun i x hi j u hu => (hg.below.cell (by rw [block_add]; exact h2)).trans (h3 i x hi j u hu)⟩⟩
theorem meth_arg {w wr : World} {A : Option Addr} {l : List MV} (h : MethsArg w A l) (hg : Grew w wr) {i : Nat} (hi : i < l.length) : ∃ ad u, A = some ad ∧ l[i]? = some u ∧ wr.cell? (ad.add (i * 3)) = some (.string u.sel) ∧ wr.cell? ⟨ad.block, (ad.add (i * 3)).off + 1, none⟩ = some (.slice u.A1 u.lits.length u.c1) ∧ wr.cell? ⟨ad.block, (ad.add (i * 3)).off + 2, none⟩ = some (.slice u.A2 u.vs.length u.c2) ∧ ad.block < wr.heap.size ∧ MethArg wr u := by
  obtain ⟨ad, e, hb, hc⟩ := h.cells (by omega)
  have hv := List.getElem?_eq_getElem hi
  have hq : ∀ j u, (mvCells l[i])[j]? = some u → wr.cell? (ad.add (i * 3 + j)) = some u := fun j u hu => by
    rw [hg.below.cell (by rw [block_add]; exact hb)]; exact hc i _ hv j u hu
  have hp : ∀ {a : Addr} {j : Nat}, j ≠ 0 → a.add j = ⟨a.block, a.off + j, none⟩ := fun hj => by simp [Addr.add, hj]
  refine ⟨ad, l[i], e, hv, hq 0 _ rfl, ?_, ?_, Nat.lt_of_lt_of_le hb hg.below.size, (h.ok _ (List.getElem_mem hi)).grew hg⟩
  · have := hq 1 _ rfl
    rwa [← add_add, hp (by decide), block_add] at this
  · have := hq 2 _ rfl
    rwa [← add_add, hp (by decide), block_add] at this
def BigX (x : Cs.Cls) : Prop := 100 < x.name.size ∨ 40 < x.vars.length ∨ 40 < x.ms.length ∨ ∃ s ∈ x.vars, 100 < s.size
/-- Too much to be looked at. -/
def BigC (l : List CV) (ms : List MV) : Prop := 70 < l.length ∨ 40 < ms.length ∨ (∃ x ∈ cls l, BigX x) ∨ ∃ u ∈ ms, BigP u
theorem ClsArg.fit {w : World} {A : Option Addr} {l : List CV} {ms : List MV} (h : ClsArg w A l) (hb : ¬ BigC l ms) : ClsAt w A l := by
  have h1 : ∀ x ∈ cls l, ¬ BigX x := fun x hx hc => hb (.inr (.inr (.inl ⟨x, hx, hc⟩)))
  refine ⟨h, ⟨by rw [cls_len]; by_cases hc : 70 < l.length; exact absurd (.inl hc) hb; omega, fun x hx => ?_, fun x hx => ?_, fun x hx s hs => ?_, fun x hx => ?_⟩⟩
  · by_cases hc : 100 < x.name.size
    · exact absurd (.inl hc) (h1 x hx)
    · omega
  · by_cases hc : 40 < x.vars.length
    · exact absurd (.inr (.inl hc)) (h1 x hx)
    · omega
  · by_cases hc : 100 < s.size
    · exact absurd (.inr (.inr (.inr ⟨s, hs, hc⟩))) (h1 x hx)
    · omega
  · by_cases hc : 40 < x.ms.length
    · exact absurd (.inr (.inr (.inl hc))) (h1 x hx)
    · omega
theorem MethsArg.fit {w : World} {A : Option Addr} {l : List CV} {ms : List MV} (h : MethsArg w A ms) (hb : ¬ BigC l ms) : MethsAt w A ms :=
  ⟨fun u hu => (h.ok u hu).fit (fun hc => hb (.inr (.inr (.inr ⟨u, hu, hc⟩)))), by by_cases hc : 40 < ms.length; exact absurd (.inr (.inl hc)) hb; omega, h.cells⟩
set_option maxRecDepth 100000 in
set_option maxHeartbeats 8000000 in
theorem bigClasses_c (A : Option Addr) (cap : Nat) (l : List CV) (A2 : Option Addr) (c2 : Nat) (ms : List MV) (b : Bool) (hb : b = true ↔ BigC l ms) (w : World) (h : ClsArg w A l) (h2 : MethsArg w A2 ms) :
    Calls Tryz.prog 7 #[.slice A l.length cap, .slice A2 ms.length c2] w fun e w' => e = .returned (.bool b) ∧ Grew w w' := by
  obtain ⟨n, en⟩ : ∃ n, n = l.length := ⟨_, rfl⟩
  obtain ⟨m, em⟩ : ∃ m, m = ms.length := ⟨_, rfl⟩
  have HA := hid h
  have HM := hid h2
  have HB := hid hb
  rw [← en, ← em]
  have EN := hid en
  have EM := hid em
  clear h h2 hb en em
  by_cases h70 : 70 < n
  · have f1 : (70 : Int) < ((n : Nat) : Int) := by omega
    have HF := hid (show b = true from HB.out.2 (.inl (by rw [← EN.out]; exact h70)))
    clear h70
    go_enter Tryz.func7, Tryz.ntmps7
    go_wp2_with fail
    go_ret
    exact ⟨by rw [HF.out]; rfl, Grew.refl _⟩
  · have f1 : ¬ (70 : Int) < ((n : Nat) : Int) := by omega
    by_cases h40 : 40 < m
    · have f2 : (40 : Int) < ((m : Nat) : Int) := by omega
      have HF := hid (show b = true from HB.out.2 (.inr (.inl (by rw [← EM.out]; exact h40))))
      clear h70 h40
      go_enter Tryz.func7, Tryz.ntmps7
      go_wp2_with fail
      go_ret
      exact ⟨by rw [HF.out]; rfl, Grew.refl _⟩
    · have f2 : ¬ (40 : Int) < ((m : Nat) : Int) := by omega
      go_enter Tryz.func7, Tryz.ntmps7
      go_wp2_with fail
      clear f1 f2
      go_loopw [5, 6] (fun s5 _ wr => ∃ i : Nat, s5 = .int .i64 ((i : Nat) : Int) ∧ i ≤ n ∧ wr = w ∧ Hid (∀ x ∈ (cls l).take i, ¬ BigX x)) (fun s5 _ _ => n - (intOf s5).toNat)
      case atStart => exact ⟨0, rfl, Nat.zero_le _, rfl, hid (by simp)⟩
      case round =>
        obtain ⟨i, rfl, hi, rfl, HO⟩ := hrel
        by_cases hlt : i < n
        · have g1 : (i : Int) < n := by omega
          obtain ⟨ad, v, rfl, hv, p0, p1, p2, p3, hb1, hok⟩ := cv_arg HA.out (Grew.refl _) (i := i) (by rw [← EN.out]; exact hlt)
          have hx := cls_at hv
          have HMem := hid (show v.c ∈ cls l from List.mem_of_getElem? hx)
          have HX := hid hx
          have HOk := hid hok
          clear hx hv hok
          by_cases c1 : 100 < v.c.name.size
          · have k1 : (100 : Int) < ((v.c.name.size : Nat) : Int) := by omega
            have HF := hid (show b = true from HB.out.2 (.inr (.inr (.inl ⟨v.c, HMem.out, .inl c1⟩))))
            clear c1
            go_wp2_with fail
            go_ret
            exact ⟨by rw [HF.out]; rfl, Grew.refl _⟩
          · have k1 : ¬ (100 : Int) < ((v.c.name.size : Nat) : Int) := by omega
            by_cases d1 : 40 < v.c.vars.length
            · have k2 : (40 : Int) < ((v.c.vars.length : Nat) : Int) := by omega
              have HF := hid (show b = true from HB.out.2 (.inr (.inr (.inl ⟨v.c, HMem.out, .inr (.inl d1)⟩))))
              clear c1 d1
              generalize v.c.vars.length = nv at *
              go_wp2_with fail
              go_ret
              exact ⟨by rw [HF.out]; rfl, Grew.refl _⟩
            · have k2 : ¬ (40 : Int) < ((v.c.vars.length : Nat) : Int) := by omega
              by_cases e1 : 40 < v.c.ms.length
              · have k3 : (40 : Int) < ((v.c.ms.length : Nat) : Int) := by omega
                have HF := hid (show b = true from HB.out.2 (.inr (.inr (.inl ⟨v.c, HMem.out, .inr (.inr (.inl e1))⟩))))
                clear c1 d1 e1
                generalize v.c.vars.length = nv at *
                generalize v.c.ms.length = nms at *
                go_wp2_with fail
                go_ret
                exact ⟨by rw [HF.out]; rfl, Grew.refl _⟩
              · have k3 : ¬ (40 : Int) < ((v.c.ms.length : Nat) : Int) := by omega
                have HNo := hid (show (∀ s ∈ v.c.vars, ¬ 100 < s.size) → ¬ BigX v.c from fun hs hc => by
                  rcases hc with hc | hc | hc | ⟨s, hm, hc⟩
                  · exact c1 hc
                  · exact d1 hc
                  · exact e1 hc
                  · exact hs s hm hc)
                have HVs := hid HOk.out.vars
                obtain ⟨nv, env⟩ : ∃ nv, nv = v.c.vars.length := ⟨_, rfl⟩
                have hnv : nv ≤ 40 := by omega
                rw [← env] at p2 k2
                have ENV := hid env
                clear c1 d1 e1 env
                generalize v.c.ms.length = nms at *
                go_wp2_with fail
                clear k1 k2 k3 p0 p1 p3
                go_loopw [6] (fun s6 wi => ∃ k : Nat, s6 = .int .i64 ((k : Nat) : Int) ∧ k ≤ nv ∧ wi = wr ∧ Hid (∀ s ∈ v.c.vars.take k, ¬ 100 < s.size)) (fun s6 _ => nv - (intOf s6).toNat)
                case atStart => exact ⟨0, rfl, Nat.zero_le _, rfl, hid (by simp)⟩
                case round =>
                  obtain ⟨k, rfl, hk, rfl, HK⟩ := hrel
                  by_cases hkl : k < nv
                  · have g2 : (k : Int) < (nv : Int) := by omega
                    obtain ⟨a2, s, ea, hs, q0, hb2⟩ := str_at HVs.out (Grew.refl _) (i := k) (by rw [← ENV.out]; exact hkl)
                    rw [ea] at p2
                    have HS := hid hs
                    clear hs ea
                    by_cases hz : 100 < s.size
                    · have k1 : (100 : Int) < ((s.size : Nat) : Int) := by omega
                      have HF := hid (show b = true from HB.out.2 (.inr (.inr (.inl ⟨v.c, HMem.out, .inr (.inr (.inr ⟨s, List.mem_of_getElem? HS.out, hz⟩))⟩))))
                      clear hz
                      go_wp2_with fail
                      go_ret
                      exact ⟨by rw [HF.out]; rfl, Grew.refl _⟩
                    · have k1 : ¬ (100 : Int) < ((s.size : Nat) : Int) := by omega
                      have HT := hid (show ∀ t ∈ v.c.vars.take (k + 1), ¬ 100 < t.size by
                        rw [List.take_add_one, HS.out]
                        intro t ht
                        rcases List.mem_append.1 ht with ht | ht
                        · exact HK.out t ht
                        · have e : t = s := by simpa using ht
                          rw [e]; exact hz)
                      clear hz
                      go_wp2_with fail
                      go_round
                      case rel => exact ⟨k + 1, by go_num, by omega, trivial, HT⟩
                      case measure => simp [intOf]; omega
                  · have hkn : k = nv := by omega
                    subst hkn
                    have HT := hid (show ∀ x ∈ (cls l).take (i + 1), ¬ BigX x by
                      rw [List.take_add_one, HX.out]
                      intro x hx
                      rcases List.mem_append.1 hx with hx | hx
                      · exact HO.out x hx
                      · have e : x = v.c := by simpa using hx
                        rw [e]
                        refine HNo.out fun s hs => HK.out s ?_
                        rwa [List.take_of_length_le (by rw [← ENV.out]; exact Nat.le_refl _)])
                    go_wp2_with fail
                    go_round
                    case rel => exact ⟨i + 1, by go_num, by omega, trivial, HT⟩
                    case measure => simp [intOf]; omega
        · have hin : i = n := by omega
          subst hin
          have HCl := hid (show ∀ x ∈ cls l, ¬ BigX x by
            have := HO.out
            rwa [List.take_of_length_le (by rw [cls_len, ← EN.out]; exact Nat.le_refl _)] at this)
          go_wp2_with fail
          go_loopw [7] (fun s7 wr2 => ∃ j : Nat, s7 = .int .i64 ((j : Nat) : Int) ∧ j ≤ m ∧ Grew wr wr2 ∧ Hid (∀ u ∈ ms.take j, ¬ BigP u)) (fun s7 _ => m - (intOf s7).toNat)
          case atStart => exact ⟨0, rfl, Nat.zero_le _, Grew.refl _, hid (by simp)⟩
          case round =>
            obtain ⟨j, rfl, hj, hg, HQ⟩ := hrel
            have HG := hid hg
            clear hg
            by_cases hjl : j < m
            · have g1 : (j : Int) < m := by omega
              obtain ⟨ad, u, rfl, hu, p0, p1, p2, hb1, hma⟩ := meth_arg HM.out HG.out (i := j) (by rw [← EM.out]; exact hjl)
              obtain ⟨d, hd⟩ : ∃ d : Bool, d = true ↔ BigP u := ⟨tru _, tru_iff _⟩
              have HC := hid (bigMethod_c u d hd _ hma)
              have HU := hid hu
              have HD := hid hd
              clear hu hd hma
              unfold mvCells at HC
              cases d
              · have HT := hid (show ∀ y ∈ ms.take (j + 1), ¬ BigP y by
                  rw [List.take_add_one, HU.out]
                  intro y hy
                  rcases List.mem_append.1 hy with hy | hy
                  · exact HQ.out y hy
                  · have e : y = u := by simpa using hy
                    rw [e]
                    intro hc
                    have := HD.out.2 hc
                    cases this)
                clear HD
                go_wp2_with fail
                refine HC.out.mono ?_
                rintro e w3 ⟨rfl, hg3⟩
                have HG3 := hid (HG.out.trans hg3)
                clear hg3
                go_wp2_with fail
                go_round
                case rel => exact ⟨j + 1, by go_num, by omega, HG3.out, HT⟩
                case measure => simp [intOf]; omega
              · have HF := hid (show b = true from HB.out.2 (.inr (.inr (.inr ⟨u, List.mem_of_getElem? HU.out, HD.out.1 rfl⟩))))
                clear HD
                go_wp2_with fail
                refine HC.out.mono ?_
                rintro e w3 ⟨rfl, hg3⟩
                have HG3 := hid (HG.out.trans hg3)
                clear hg3
                go_wp2_with fail
                go_ret
                exact ⟨by rw [HF.out]; rfl, HG3.out⟩
            · have hjm : j = m := by omega
              subst hjm
              have HF := hid (show b = false by
                rw [← Bool.not_eq_true, HB.out]
                rintro (hc | hc | ⟨x, hx, hc⟩ | ⟨u, hu, hc⟩)
                · rw [← EN.out] at hc; exact h70 hc
                · rw [← EM.out] at hc; exact h40 hc
                · exact HCl.out x hx hc
                · refine HQ.out u ?_ hc
                  rwa [List.take_of_length_le (by rw [← EM.out]; exact Nat.le_refl _)])
              clear h70 h40
              go_wp2_with fail
              go_ret
              exact ⟨by rw [HF.out]; rfl, HG.out⟩
end Go.Proofs.YtjladeiecokpfaaGreatDoor
end

section
/- Stage 10: law 10's sure: the mathematics of its classes. -/
namespace Go.Proofs.YtjladeiecokpfaaGreatDoor
open Go.RowKit

def fooS : ByteArray := ⟨#[102, 111, 111]⟩
def s10M : Mt.Meth := ⟨fooS, [], [⟨-1, 0, 0, [0, 17]⟩]⟩
theorem s10_well : Fl.Well [0, 17] [⟨0, 0, 0⟩, ⟨17, 0, 0⟩] [0, 1] [[1], []] [0, 1] := ⟨by decide +kernel, by decide +kernel, by decide +kernel⟩
theorem s10_may : Mt.May s10M 1 13 := by
  refine ⟨by decide +kernel, by decide, ?_, ⟨by decide, by decide, ?_⟩, by decide +kernel, ?_⟩
  · intro x hx
    cases hx
  · intro i p hp
    match i, hp with
    | 0, hp => cases hp; decide
    | i + 1, hp => cases hp
  · intro i p hp
    match i, hp with
    | 0, hp => cases hp; exact ⟨_, _, _, _, s10_well, by decide +kernel⟩
    | i + 1, hp => cases hp
/-- The method, and where it lies. -/
def s10V (h0 h1 : Nat) : MV := ⟨fooS, [], none, 0, [⟨⟨-1, 0, 0, [0, 17]⟩, some ⟨h0, 0, none⟩, 2⟩], some ⟨h1, 0, none⟩, 1⟩
def fooC : Cs.Cls := ⟨⟨#[70, 111, 111]⟩, 0, [⟨#[97]⟩], [0]⟩
def barC : Cs.Cls := ⟨⟨#[66, 97, 114]⟩, 11, [⟨#[98]⟩], []⟩
def s10L : List Cs.Cls := firstL ++ [fooC, barC]
def s10C (a b c : Nat) : List CV := firstV ++ [⟨fooC, some ⟨a, 0, none⟩, 1, some ⟨b, 0, none⟩, 1⟩, ⟨barC, some ⟨c, 0, none⟩, 1, none, 0⟩]
theorem s10_cls (a b c : Nat) : cls (s10C a b c) = s10L := by
  unfold s10C s10L
  rw [← firstV_cls]
  simp [cls]
instance (l : List ByteArray) : Decidable (VarsOk l) := by unfold VarsOk; infer_instance
instance (x : Cs.Cls) (c : Int) : Decidable (NewOk x c) := by unfold NewOk; infer_instance
instance (l : List Cs.Cls) (c : Nat) (x : Cs.Cls) : Decidable (RowOk l c x) := by unfold RowOk; infer_instance
def rowsB (l : List Cs.Cls) : Bool := (List.range l.length).all fun c => match l[c]? with
  | some x => decide (RowOk l c x)
  | none => true
theorem rows_of {l : List Cs.Cls} (h : rowsB l = true) : ∀ c x, l[c]? = some x → RowOk l c x := fun c x hx => by
  have := List.all_eq_true.1 h c (List.mem_range.2 (List.getElem?_eq_some_iff.1 hx).1)
  rw [hx] at this
  exact of_decide_eq_true this
theorem s10_rows : rowsB s10L = true := by decide +kernel
theorem s10_names : (s10L.map (·.name)).Nodup := by decide +kernel
theorem s10_like : allLike firstV firstV = true := by decide +kernel
theorem s10_listed : nums s10L = [0] := by decide +kernel
theorem s10_ms : ∀ c, c < 13 → ((s10L[c]?).map (·.ms)) = some (if c = 11 then [0] else []) := by decide +kernel
theorem s10_len : s10L.length = 13 := by decide +kernel
theorem s10_n11 : Cs.names s10L 11 = [⟨#[97]⟩] := by decide +kernel
theorem s10_n12 : Cs.names s10L 12 = [⟨#[97]⟩, ⟨#[98]⟩] := by decide +kernel
theorem s10_f12 : Cs.find s10L [fooS] 12 fooS = some 0 := by decide +kernel
theorem s10_f5 : Cs.find s10L [fooS] 5 fooS = none := by decide +kernel
theorem s10_of : Cs.of s10L ⟨#[66, 97, 114]⟩ = some 12 := by decide +kernel
theorem s10_own : Cs.owner s10L 0 = some 11 := by decide +kernel
theorem s10_u1 : Cs.under s10L 12 11 = true := by decide +kernel
theorem s10_u2 : Cs.under s10L 11 12 = false := by decide +kernel
theorem s10_yes (a b c h0 h1 : Nat) : MayC (s10C a b c) [s10V h0 h1] := by
  rw [may_iff, s10_cls]
  have hl : (s10C a b c).length = 13 := by rw [← cls_len, s10_cls]; exact s10_len
  refine ⟨⟨by rw [hl]; decide, by rw [show (s10C a b c).take 11 = firstV from rfl]; exact s10_like, by rw [s10_cls]; exact rows_of s10_rows, by rw [s10_cls]; exact s10_names⟩, ⟨(show 1 ≤ 256 by decide), by rw [s10_listed]; rfl, by rw [s10_listed]; exact (show ∀ i ∈ ([0] : List Int), isIdx i 1 = true by decide), by rw [s10_listed]; decide⟩, fun c x hx => ?_⟩
  have hc : c < 13 := by rw [← s10_len]; exact (List.getElem?_eq_some_iff.1 hx).1
  have hm := s10_ms c hc
  rw [hx] at hm
  replace hm : x.ms = (if c = 11 then [0] else []) := Option.some.inj hm
  by_cases h11 : c = 11
  · subst h11
    rw [if_pos rfl] at hm
    unfold MethsOk
    rw [hm]
    refine ⟨fun i hi => ?_, by simp⟩
    obtain rfl := List.mem_singleton.1 hi
    rw [s10_len, show (((11 : Nat) : Nat) : Int) = 11 from rfl, s10_n11]
    exact s10_may
  · rw [if_neg h11] at hm
    unfold MethsOk
    rw [hm]
    exact ⟨(fun i hi => by cases hi), by simp⟩
theorem s10_no (a b c : Nat) : ¬ MayC (s10C a b c) [] := by
  rw [may_iff]
  rintro ⟨_, ⟨_, h, _⟩, _⟩
  rw [s10_cls, s10_listed] at h
  cases h
theorem s10_at {w : World} {h0 h1 : Nat} (b1 : Blk w h0 5 #[.int .u8 0, .int .u8 17]) (b2 : Blk w h1 71 #[.int .i64 (-1), .int .i64 0, .int .i64 0, .slice (some ⟨h0, 0, none⟩) 2 2]) : MethAt w (s10V h0 h1) := by
  have ad0 : ∀ (h j : Nat), (⟨h, 0, none⟩ : Addr).add j = ⟨h, j, none⟩ := fun h j => by unfold Addr.add; split <;> simp_all
  refine ⟨(show fooS.size ≤ 2000 by decide), ⟨(fun x hx => by cases hx), fun h => absurd (show 0 < 0 from h) (by decide)⟩, (show 0 ≤ 100 by decide), ⟨?_, fun _ => ⟨_, rfl, b2.lt, ?_⟩⟩, (show 1 ≤ 100 by decide)⟩
  · intro v hv
    rw [show (s10V h0 h1).vs = [⟨⟨-1, 0, 0, [0, 17]⟩, some ⟨h0, 0, none⟩, 2⟩] from rfl, List.mem_singleton] at hv
    subst hv
    refine ⟨⟨(show ∀ x ∈ [0, 17], x < 256 by decide), fun _ => ⟨_, rfl, b1.lt, fun j hj => ?_⟩⟩, (show 2 ≤ 2 by decide), (show 2 ≤ 9223372036854775807 by decide), (show 2 ≤ 1000 by decide)⟩
    rw [ad0, b1.cell]
    match j, hj with
    | 0, _ => rfl
    | 1, _ => rfl
    | j + 2, hj => exact absurd hj (by simp)
  · intro i v hv j u hu
    match i, hv with
    | 0, hv =>
      cases hv
      rw [ad0, b2.cell, Nat.zero_mul, Nat.zero_add]
      exact hu
    | i + 1, hv => cases hv
theorem s10_meths {w : World} {h0 h1 h2 : Nat} (h : MethAt w (s10V h0 h1)) (b3 : Blk w h2 55 #[.string fooS, .slice none 0 0, .slice (some ⟨h1, 0, none⟩) 1 1]) : MethsAt w (some ⟨h2, 0, none⟩) [s10V h0 h1] := by
  have ad0 : ∀ (h j : Nat), (⟨h, 0, none⟩ : Addr).add j = ⟨h, j, none⟩ := fun h j => by unfold Addr.add; split <;> simp_all
  refine ⟨fun u hu => by rw [List.mem_singleton.1 hu]; exact h, (show 1 ≤ 100 by decide), fun _ => ⟨_, rfl, b3.lt, fun i v hv j u hu => ?_⟩⟩
  match i, hv with
  | 0, hv =>
    cases hv
    rw [ad0, b3.cell, Nat.zero_mul, Nat.zero_add]
    exact hu
  | i + 1, hv => cases hv
theorem s10_fit : ClsFit s10L where
  len := by rw [s10_len]; decide
  name := by decide +kernel
  vars := by decide +kernel
  var := by decide +kernel
  ms := by decide +kernel
theorem s10_cells (a b c : Nat) : (s10C a b c).flatMap cvF = firstV.flatMap cvF ++ [.string ⟨#[70, 111, 111]⟩, .int .i64 0, .slice (some ⟨a, 0, none⟩) 1 1, .slice (some ⟨b, 0, none⟩) 1 1, .string ⟨#[66, 97, 114]⟩, .int .i64 11, .slice (some ⟨c, 0, none⟩) 1 1, .slice none 0 0] := by
  unfold s10C
  rw [List.flatMap_append]
  rfl
theorem one_str {w : World} {a : Nat} {s : ByteArray} (h : Blk w a 9 #[.string s]) : StrsAt w w.heap.size (some ⟨a, 0, none⟩) [s] := fun _ => ⟨_, rfl, h.lt, fun i t ht => by
  match i, ht with
  | 0, ht =>
    cases ht
    rw [add_zero]
    exact h.cell 0
  | i + 1, ht => cases ht⟩
theorem one_int {w : World} {a : Nat} {x : Int} (h : Blk w a 3 #[.int .i64 x]) (hx : Vi.I64 x) : IntsAt w w.heap.size (some ⟨a, 0, none⟩) [x] := ⟨fun y hy => by rw [List.mem_singleton.1 hy]; exact hx, fun _ => ⟨_, rfl, h.lt, fun j hj => by
  match j, hj with
  | 0, _ =>
    rw [add_zero]
    exact h.cell 0
  | j + 1, hj => exact absurd hj (by simp)⟩⟩
theorem s10_clsat {w : World} {B a b c k : Nat} {A : Option Addr} (b1 : Blk w a 9 #[.string ⟨#[97]⟩]) (b2 : Blk w b 3 #[.int .i64 0]) (b3 : Blk w c 9 #[.string ⟨#[98]⟩]) (hr : Row w B 60 4 A 13 k ((s10C a b c).flatMap cvF)) : ClsAt w A (s10C a b c) := by
  refine ⟨cls_row hr (by rw [← cls_len, s10_cls, s10_len]) fun v hv => ?_, by rw [s10_cls]; exact s10_fit⟩
  rcases List.mem_append.1 hv with hv | hv
  · exact firstV_ok w v hv
  · simp only [List.mem_cons, List.not_mem_nil, or_false] at hv
    rcases hv with rfl | rfl
    · exact ⟨one_str b1, one_int b2 ⟨by decide, by decide⟩, (show Vi.I64 0 from ⟨by decide, by decide⟩), Nat.le_refl _, Nat.le_refl _⟩
    · exact ⟨one_str b3, ints_nil w none, (show Vi.I64 11 from ⟨by decide, by decide⟩), Nat.le_refl _, Nat.le_refl _⟩
end Go.Proofs.YtjladeiecokpfaaGreatDoor
end

section
/- Stage 10: law 10's sure. -/
namespace Go.Proofs.YtjladeiecokpfaaGreatDoor
open Go.RowKit

/-- What 'sure' has before it. -/
structure S10 (w : World) (A : Option Addr) (k a b c h0 h1 h2 : Nat) : Prop where
  cl : ClsAt w A (s10C a b c)
  cap : 13 ≤ k
  ms : MethsAt w (some ⟨h2, 0, none⟩) [s10V h0 h1]
  hh : HandleAt w
  env : Env w
theorem S10.grew {w w' : World} {A : Option Addr} {k a b c h0 h1 h2 : Nat} (h : S10 w A k a b c h0 h1 h2) (hg : Grew w w') : S10 w' A k a b c h0 h1 h2 := ⟨h.cl.grew hg, h.cap, h.ms.grew hg, h.hh.grew hg, h.env.grew hg⟩
section
variable {w : World} {A : Option Addr} {k a b c h0 h1 h2 : Nat}
theorem s10C_len : (s10C a b c).length = 13 := by rw [← cls_len, s10_cls, s10_len]
theorem S10.find12 (h : S10 w A k a b c h0 h1 h2) : Calls Tryz.prog 12 #[.slice A 13 k, .slice (some ⟨h2, 0, none⟩) 1 1, .int .i64 12, .string fooS] w fun e w' => e = .returned (.tuple #[.int .i64 0, .bool true]) ∧ Grew w w' := by
  have := find_c A k (s10C a b c) (some ⟨h2, 0, none⟩) 1 [s10V h0 h1] 12 fooS w h.cl h.ms
  rw [s10_cls, s10C_len, show sels [s10V h0 h1] = [fooS] from rfl, s10_f12] at this
  exact this
theorem S10.find5 (h : S10 w A k a b c h0 h1 h2) : Calls Tryz.prog 12 #[.slice A 13 k, .slice (some ⟨h2, 0, none⟩) 1 1, .int .i64 5, .string fooS] w fun e w' => e = .returned (.tuple #[.int .i64 0, .bool false]) ∧ Grew w w' := by
  have := find_c A k (s10C a b c) (some ⟨h2, 0, none⟩) 1 [s10V h0 h1] 5 fooS w h.cl h.ms
  rw [s10_cls, s10C_len, show sels [s10V h0 h1] = [fooS] from rfl, s10_f5] at this
  exact this
theorem S10.of (h : S10 w A k a b c h0 h1 h2) : Calls Tryz.prog 14 #[.slice A 13 k, .string ⟨#[66, 97, 114]⟩] w fun e w' => e = .returned (.tuple #[.int .i64 12, .bool true]) ∧ Grew w w' := by
  have := of_c A k (s10C a b c) ⟨#[66, 97, 114]⟩ w h.cl
  rw [s10_cls, s10C_len, s10_of] at this
  exact this
theorem S10.owner (h : S10 w A k a b c h0 h1 h2) : Calls Tryz.prog 16 #[.slice A 13 k, .int .i64 0] w fun e w' => e = .returned (.tuple #[.int .i64 11, .bool true]) ∧ Grew w w' := by
  have := owner_c A k (s10C a b c) 0 w h.cl
  rw [s10_cls, s10C_len, s10_own] at this
  exact this
theorem S10.check (h : S10 w A k a b c h0 h1 h2) : Calls Tryz.prog 11 #[.slice A 13 k, .slice (some ⟨h2, 0, none⟩) 1 1] w fun e w' => e = .returned .nilIface ∧ Grew w w' := by
  have := ccheck_c A k (s10C a b c) (some ⟨h2, 0, none⟩) 1 [s10V h0 h1] true ⟨fun _ => s10_yes a b c h0 h1, fun _ => rfl⟩ w h.cl (by rw [s10C_len]; exact h.cap) h.ms h.env
  rw [s10C_len] at this
  exact this
theorem nil_meths (w : World) (A : Option Addr) : MethsAt w A [] := ⟨(fun u hu => by cases hu), by decide, fun h => absurd h (by decide)⟩
theorem S10.check0 (h : S10 w A k a b c h0 h1 h2) : Calls Tryz.prog 11 #[.slice A 13 k, .slice none 0 0] w fun e w' => e = .returned (errVal 8) ∧ Grew w w' := by
  have := ccheck_c A k (s10C a b c) none 0 [] false ⟨(fun h => by cases h), fun hc => absurd hc (s10_no a b c)⟩ w h.cl (by rw [s10C_len]; exact h.cap) (nil_meths w none) h.env
  rw [s10C_len] at this
  exact this
theorem S10.names (h : S10 w A k a b c h0 h1 h2) : Calls Tryz.prog 22 #[.slice A 13 k, .int .i64 12] w fun e w' => ∃ (B : Option Addr) (d : Nat), e = .returned (.slice B 2 d) ∧ StrsAt w' w'.heap.size B [⟨#[97]⟩, ⟨#[98]⟩] ∧ Grew w w' := by
  have := names_c A k (s10C a b c) 12 w h.cl
  rw [s10_cls, s10C_len, s10_n12] at this
  exact this.mono fun e w' ⟨B, d, h1, h2, h3⟩ => ⟨B, d, h1, row_strs h2 rfl, h3⟩
theorem S10.count (h : S10 w A k a b c h0 h1 h2) : Calls Tryz.prog 23 #[.slice A 13 k, .int .i64 11] w fun e w' => e = .returned (.int .i64 1) ∧ Grew w w' := by
  have := count_c A k (s10C a b c) 11 w h.cl
  rw [s10_cls, s10C_len, s10_n11] at this
  exact this
theorem S10.under1 (h : S10 w A k a b c h0 h1 h2) : Calls Tryz.prog 24 #[.slice A 13 k, .int .i64 12, .int .i64 11] w fun e w' => e = .returned (.bool true) ∧ Grew w w' := by
  have := under_c A k (s10C a b c) 12 11 w h.cl
  rw [s10_cls, s10C_len, s10_u1] at this
  exact this
theorem S10.under2 (h : S10 w A k a b c h0 h1 h2) : Calls Tryz.prog 24 #[.slice A 13 k, .int .i64 11, .int .i64 12] w fun e w' => e = .returned (.bool false) ∧ Grew w w' := by
  have := under_c A k (s10C a b c) 11 12 w h.cl
  rw [s10_cls, s10C_len, s10_u2] at this
  exact this
end
theorem texts10 (B : Option Addr) (d H : Nat) (w : World) (h : StrsAt w w.heap.size B [⟨#[97]⟩, ⟨#[98]⟩]) (h2 : Blk w H 9 #[.string ⟨#[97]⟩, .string ⟨#[98]⟩]) : Calls Tryz.prog 21 #[.slice B 2 d, .slice (some ⟨H, 0, none⟩) 2 2] w fun e w' => e = .returned (.bool true) ∧ Grew w w' := by
  have ad0 : ∀ (h j : Nat), (⟨h, 0, none⟩ : Addr).add j = ⟨h, j, none⟩ := fun h j => by unfold Addr.add; split <;> simp_all
  have := texts_c B d [⟨#[97]⟩, ⟨#[98]⟩] (some ⟨H, 0, none⟩) 2 [⟨#[97]⟩, ⟨#[98]⟩] w h (fun _ => ⟨_, rfl, h2.lt, fun i t ht => by
    rw [ad0, h2.cell]
    match i, ht with
    | 0, ht => cases ht; rfl
    | 1, ht => cases ht; rfl
    | i + 2, ht => cases ht⟩) (by decide) (by decide)
  exact this
def yes10 (w : World) (e : Ending) (w' : World) : Prop := e = .returned (.bool true) ∧ Grew w w'
set_option maxRecDepth 100000 in
set_option maxHeartbeats 8000000 in
theorem sure10_c (w : World) (hh : HandleAt w) (hE : Env w) : Calls Tryz.prog 8 #[] w (yes10 w) := by
  have HF := hid (first_c w)
  have HH := hid hh
  have HE := hid hE
  clear hh hE
  go_enter Tryz.func8, Tryz.ntmps8
  go_wp2_with fail
  refine HF.out.mono ?_
  rintro e w1 ⟨g, rfl, hbk, hgw, hg1⟩
  have HG1 := hid hg1
  have HRow := hid (first_row hbk hgw)
  clear hbk hgw hg1 HF
  obtain ⟨h, hh⟩ : ∃ h, h = w1.heap.size := ⟨_, rfl⟩
  obtain ⟨W4, hW4⟩ : ∃ W4, W4 = (((w1.alloc (.cells #[.string ⟨#[97]⟩] 9)).alloc (.cells #[.int .i64 0] 3)).alloc (.cells #[.string ⟨#[98]⟩] 9)).alloc (.cells #[.string ⟨#[70, 111, 111]⟩, .int .i64 0, .slice (some ⟨h, 0, none⟩) 1 1, .slice (some ⟨h + 1, 0, none⟩) 1 1, .string ⟨#[66, 97, 114]⟩, .int .i64 11, .slice (some ⟨h + 1 + 1, 0, none⟩) 1 1, .slice none 0 0] 60) := ⟨_, rfl⟩
  have g4 : Grew w1 W4 := by rw [hW4]; exact ((((Grew.refl w1).alloc _).alloc _).alloc _).alloc _
  have bA : Blk W4 h 9 #[.string ⟨#[97]⟩] := by
    rw [hW4, hh]; exact (Blk.new w1 _ _).grew ((((Grew.refl _).alloc _).alloc _).alloc _)
  have bI : Blk W4 (h + 1) 3 #[.int .i64 0] := by
    have := Blk.new (w1.alloc (.cells #[.string ⟨#[97]⟩] 9)) 3 #[.int .i64 0]
    rw [World.size_alloc] at this
    rw [hW4, hh]; exact this.grew (((Grew.refl _).alloc _).alloc _)
  have bB : Blk W4 (h + 1 + 1) 9 #[.string ⟨#[98]⟩] := by
    have := Blk.new ((w1.alloc (.cells #[.string ⟨#[97]⟩] 9)).alloc (.cells #[.int .i64 0] 3)) 9 #[.string ⟨#[98]⟩]
    rw [World.size_alloc, World.size_alloc] at this
    rw [hW4, hh]; exact this.grew ((Grew.refl _).alloc _)
  have bC : Blk W4 (h + 1 + 1 + 1) 60 #[.string ⟨#[70, 111, 111]⟩, .int .i64 0, .slice (some ⟨h, 0, none⟩) 1 1, .slice (some ⟨h + 1, 0, none⟩) 1 1, .string ⟨#[66, 97, 114]⟩, .int .i64 11, .slice (some ⟨h + 1 + 1, 0, none⟩) 1 1, .slice none 0 0] := by
    have := Blk.new (((w1.alloc (.cells #[.string ⟨#[97]⟩] 9)).alloc (.cells #[.int .i64 0] 3)).alloc (.cells #[.string ⟨#[98]⟩] 9)) 60 #[.string ⟨#[70, 111, 111]⟩, .int .i64 0, .slice (some ⟨h, 0, none⟩) 1 1, .slice (some ⟨h + 1, 0, none⟩) 1 1, .string ⟨#[66, 97, 114]⟩, .int .i64 11, .slice (some ⟨h + 1 + 1, 0, none⟩) 1 1, .slice none 0 0]
    rw [World.size_alloc, World.size_alloc, World.size_alloc, ← hh] at this
    rw [hW4]; exact this
  have HG4 := hid (HG1.out.trans g4)
  have HR4 := hid (HRow.out.grew g4)
  have HLow := hid (show ∀ q, AtRow (some ⟨g, 0, none⟩) q → q < h from fun q hq => by rw [hh]; exact Row.at_lt HRow.out q hq)
  have HA := hid bA
  have HI := hid bI
  have HB := hid bB
  have HC := hid bC
  have HW4 := hid hW4
  have HHh := hid hh
  clear g4 bA bI bB bC hW4 hh
  go_upto_region 2 with (at_builtin; rw [← HHh.out, ← HW4.out]; refine wpList_catR (.agg #[.string ⟨#[]⟩, .int .i64 0, .slice none 0 0, .slice none 0 0]) 4 72 W4 rfl _ _ 28 60 rfl Tryz.underlying28 class_info rfl (by decide) w.heap.size HG4.out.below.size (some ⟨g, 0, none⟩) 11 11 _ rfl HR4.out (some ⟨h + 1 + 1 + 1, 0, none⟩) 2 2 [.string ⟨#[70, 111, 111]⟩, .int .i64 0, .slice (some ⟨h, 0, none⟩) 1 1, .slice (some ⟨h + 1, 0, none⟩) 1 1, .string ⟨#[66, 97, 114]⟩, .int .i64 11, .slice (some ⟨h + 1 + 1, 0, none⟩) 1 1, .slice none 0 0] rfl rfl (by intro u hu; simp only [List.mem_cons, List.not_mem_nil, or_false] at hu; rcases hu with rfl | rfl | rfl | rfl | rfl | rfl | rfl | rfl <;> rfl) (by intro e; cases e) (blk_row HC.out) (by decide) (by decide) ?_; rintro A5 k5 w5 hR5 hK5 hT5; have HR5 := hid hR5; have HK5 := hid hK5; clear hR5 hK5 hT5)
  have nb : ∀ k, h ≤ k → ¬ AtRow (some ⟨g, 0, none⟩) k := fun k hk hq => by have := HLow.out k hq; omega
  have hcl : ClsAt w5 A5 (s10C h (h + 1) (h + 1 + 1)) := s10_clsat (HA.out.kept HK5.out (nb _ (by omega))) (HI.out.kept HK5.out (nb _ (by omega))) (HB.out.kept HK5.out (nb _ (by omega))) (by rw [s10_cells]; exact HR5.out)
  have hcap : 13 ≤ k5 := HR5.out.cases.2.1
  have hg5 : Grew w w5 := HK5.out.grew HG4.out (Row.at_base HR4.out)
  obtain ⟨q, hq⟩ : ∃ q, q = w5.heap.size := ⟨_, rfl⟩
  obtain ⟨W8, hW8⟩ : ∃ W8, W8 = ((w5.alloc (.cells #[.int .u8 0, .int .u8 17] 5)).alloc (.cells #[.int .i64 (-1), .int .i64 0, .int .i64 0, .slice (some ⟨q, 0, none⟩) 2 2] 71)).alloc (.cells #[.string fooS, .slice none 0 0, .slice (some ⟨q + 1, 0, none⟩) 1 1] 55) := ⟨_, rfl⟩
  have g8 : Grew w5 W8 := by rw [hW8]; exact (((Grew.refl w5).alloc _).alloc _).alloc _
  have b1 : Blk W8 q 5 #[.int .u8 0, .int .u8 17] := by
    rw [hW8, hq]; exact (Blk.new w5 _ _).grew (((Grew.refl _).alloc _).alloc _)
  have b2 : Blk W8 (q + 1) 71 #[.int .i64 (-1), .int .i64 0, .int .i64 0, .slice (some ⟨q, 0, none⟩) 2 2] := by
    have := Blk.new (w5.alloc (.cells #[.int .u8 0, .int .u8 17] 5)) 71 #[.int .i64 (-1), .int .i64 0, .int .i64 0, .slice (some ⟨q, 0, none⟩) 2 2]
    rw [World.size_alloc, ← hq] at this
    rw [hW8]; exact this.grew ((Grew.refl _).alloc _)
  have b3 : Blk W8 (q + 1 + 1) 55 #[.string fooS, .slice none 0 0, .slice (some ⟨q + 1, 0, none⟩) 1 1] := by
    have := Blk.new ((w5.alloc (.cells #[.int .u8 0, .int .u8 17] 5)).alloc (.cells #[.int .i64 (-1), .int .i64 0, .int .i64 0, .slice (some ⟨q, 0, none⟩) 2 2] 71)) 55 #[.string fooS, .slice none 0 0, .slice (some ⟨q + 1, 0, none⟩) 1 1]
    rw [World.size_alloc, World.size_alloc, ← hq] at this
    rw [hW8]; exact this
  have HS : Hid (S10 W8 A5 k5 h (h + 1) (h + 1 + 1) q (q + 1) (q + 1 + 1)) := hid ⟨hcl.grew g8, hcap, s10_meths (s10_at b1 b2) b3, HH.out.grew (hg5.trans g8), HE.out.grew (hg5.trans g8)⟩
  have HG := hid (hg5.trans g8)
  have HW8 := hid hW8
  have HQ := hid hq
  clear nb hcl hcap hg5 hq hW8 g8 b1 b2 b3 HR5 HK5 HR4 HG4 HLow HA HI HB HC HW4 HHh HRow HG1
  go_upto_region 3 with fail
  rw [← HQ.out]
  unfold fooS at HW8
  rw [← HW8.out]
  clear HW8 HQ
  have h12 := hid HS.out.find12
  unfold fooS at h12
  go_wp2_with fail
  refine h12.out.mono ?_
  rintro e wn ⟨rfl, hg⟩
  replace HS := hid (HS.out.grew hg)
  replace HG := hid (HG.out.trans hg)
  clear hg h12
  have h5 := hid HS.out.find5
  unfold fooS at h5
  go_wp2_with fail
  refine h5.out.mono ?_
  rintro e wn ⟨rfl, hg⟩
  replace HS := hid (HS.out.grew hg)
  replace HG := hid (HG.out.trans hg)
  clear hg h5
  go_wp2_with fail
  refine HS.out.of.mono ?_
  rintro e wn ⟨rfl, hg⟩
  replace HS := hid (HS.out.grew hg)
  replace HG := hid (HG.out.trans hg)
  clear hg
  go_wp2_with fail
  refine HS.out.owner.mono ?_
  rintro e wn ⟨rfl, hg⟩
  replace HS := hid (HS.out.grew hg)
  replace HG := hid (HG.out.trans hg)
  clear hg
  go_wp2_with fail
  refine HS.out.check.mono ?_
  rintro e wn ⟨rfl, hg⟩
  replace HS := hid (HS.out.grew hg)
  replace HG := hid (HG.out.trans hg)
  clear hg
  go_wp2_with fail
  refine HS.out.check0.mono ?_
  rintro e wn ⟨rfl, hg⟩
  replace HS := hid (HS.out.grew hg)
  replace HG := hid (HG.out.trans hg)
  clear hg
  have HN := hid (num_c 8 _ HS.out.hh)
  rw [show errVal 8 = .iface 75 (.int .i64 8) from rfl] at HN ⊢
  go_wp2_with fail
  refine HN.out.mono ?_
  rintro e wn ⟨rfl, hg⟩
  replace HS := hid (HS.out.grew hg)
  replace HG := hid (HG.out.trans hg)
  clear hg HN
  go_wp2_with fail
  refine HS.out.names.mono ?_
  rintro e wn ⟨B, d, rfl, hst, hg⟩
  have G9 := (Grew.refl wn).alloc (.cells #[.string ⟨#[97]⟩, .string ⟨#[98]⟩] 9)
  have HT := hid (texts10 B d _ _ (hst.grew G9) (Blk.new wn 9 #[.string ⟨#[97]⟩, .string ⟨#[98]⟩]))
  replace HS := hid (HS.out.grew (hg.trans G9))
  replace HG := hid (HG.out.trans (hg.trans G9))
  clear hg hst G9
  go_wp2_with fail
  refine HT.out.mono ?_
  rintro e wn ⟨rfl, hg⟩
  replace HS := hid (HS.out.grew hg)
  replace HG := hid (HG.out.trans hg)
  clear hg HT
  go_wp2_with fail
  refine HS.out.count.mono ?_
  rintro e wn ⟨rfl, hg⟩
  replace HS := hid (HS.out.grew hg)
  replace HG := hid (HG.out.trans hg)
  clear hg
  go_wp2_with fail
  refine HS.out.under1.mono ?_
  rintro e wn ⟨rfl, hg⟩
  replace HS := hid (HS.out.grew hg)
  replace HG := hid (HG.out.trans hg)
  clear hg
  go_wp2_with fail
  refine HS.out.under2.mono ?_
  rintro e wn ⟨rfl, hg⟩
  replace HS := hid (HS.out.grew hg)
  replace HG := hid (HG.out.trans hg)
  clear hg
  go_wp2_with fail
  go_ret
  exact ⟨rfl, HG.out⟩
end Go.Proofs.YtjladeiecokpfaaGreatDoor
end

section
/- ClassFinds: the law's walk. -/
namespace Go.Proofs.YtjladeiecokpfaaGreatDoor
open Go.RowKit

/-- Classes and methods that the call has made of those that came in. -/
structure Given (w : World) (l : List CV) (ms : List MV) (A : Option Addr) (c : Nat) (vs : List CV) (B : Option Addr) (us : List MV) : Prop where
  cl : ClsAt w A vs
  cap : vs.length ≤ c
  ms : MethsAt w B us
  same : cls vs = cls l
  env : Env w
theorem Given.grew {w w' : World} {l : List CV} {ms : List MV} {A : Option Addr} {c : Nat} {vs : List CV} {B : Option Addr} {us : List MV} (h : Given w l ms A c vs B us) (hg : Grew w w') : Given w' l ms A c vs B us := ⟨h.cl.grew hg, h.cap, h.ms.grew hg, h.same, h.env.grew hg⟩
end Go.Proofs.YtjladeiecokpfaaGreatDoor
end

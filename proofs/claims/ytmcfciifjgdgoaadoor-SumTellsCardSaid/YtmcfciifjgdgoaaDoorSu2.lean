/- Package sum: the checksum of pieces. -/
import Derived.Test.YtmcfciifjgdgoaaDoorSu1
import Derived.Test.YtmcfciifjgdgoaaDoorIter2
import Derived.Test.YtmcfciifjgdgoaaDoorRound
namespace Go.Proofs.YtmcfciifjgdgoaaDoor
open Go.RowKit Go.Shelf
attribute [local go_sem] Oper.semAt_some

set_option maxHeartbeats 1000000 in
theorem all_in (F : Fence) (m : Nat) (hF : F.fn 47) (hro : F.round = none) (a : Option Addr) (n c : Nat) (w : World) :
    CallsIn F m Tryd.prog 47 #[.slice a n c] w fun e w' => e = .returned (.func (.func 69) #[] #[.pointer (some ⟨w.heap.size, 0, none⟩)]) ∧ w' = w.alloc (.cells #[.slice a n c] 77) := by
  refine callsIn_of_wp Tryd.func47 rfl hF ?_ hro
  simp only [Tryd.ntmps47, List.size_toArray, List.length_cons, List.length_nil, Nat.reduceAdd, Nat.reduceSub, Array.replicate_succ, Array.replicate_zero, List.push_toArray, List.append_toArray, List.nil_append, List.cons_append]
  gi_wp2
  go_ret
  exact ⟨rfl, rfl⟩

theorem PcRd.kept {Bs K c : Nat} {A : Option Addr} {V : Nat → Option Addr × Nat} {Ls : List (List Nat)} {W W' : World} {row : Option Nat} (h : PcRd Bs K A c V Ls W) (hg : W.grownBy W' row) (hr : ∀ r, row = some r → ∃ o : Obj, W.heap[r]? = some o ∧ o.isCells = false) : PcRd Bs K A c V Ls W' :=
  ⟨cell_kept h.1 hg hr, h.2.kept fun _ _ _ hv => cell_kept hv hg hr⟩
theorem PcRd.far {Bs K c : Nat} {A : Option Addr} {V : Nat → Option Addr × Nat} {Ls : List (List Nat)} {W : World} (h : PcRd Bs K A c V Ls W) {p : Addr} (hB : Bs ≠ p.block) (hK : K ≤ p.block) (u : Value) : PcRd Bs K A c V Ls (W.setCell p u) :=
  ⟨(World.cell?_of_block (Below.heap_setCell W p u Bs hB)).trans h.1, h.2.kept fun q v hq hv => (World.cell?_of_block (Below.heap_setCell W p u _ (by omega))).trans hv⟩
theorem PcAt.grew {K : Nat} {A : Option Addr} {V : Nat → Option Addr × Nat} {Ls : List (List Nat)} {W W' : World} (h : PcAt K A V Ls W) (hK : K ≤ W.heap.size) (hg : Grew W W') : PcAt K A V Ls W' :=
  h.kept fun p v hp hv => (hg.below.cell (by omega)).trans hv
theorem all_stops (F : Fence) (m : Nat) (hF : F.fn 69) (hro : F.round = none) (hm : 1 ≤ m) (Bs K c : Nat) (A : Option Addr) (V : Nat → Option Addr × Nat) (Ls : List (List Nat)) (hn : Ls.length ≤ 100000) (hl : ∀ j, (Ls.getD j []).length ≤ 100000) (w : World) (hR : ∀ W, Below w.heap.size w W → PcRd Bs K A c V Ls W) :
    SeqStopsK F m Tryd.prog 69 #[.pointer (some ⟨Bs, 0, none⟩)] byEnc (fun W W' => PcRd Bs K A c V Ls W → PcRd Bs K A c V Ls W') (fun ys => ys = Ls.flatten)
      (fun _ => True) Ls.flatten.length w := fun l J Jx W hW _ _ hY h0 =>
  all1_in F m hF hro hm l Bs K c A V Ls hn hl J Jx hY W (hR W hW) h0
theorem pc_b {Bs K c : Nat} {A : Option Addr} {V : Nat → Option Addr × Nat} {Ls : List (List Nat)} {w : World} (W : World) (l : Nat) (o o' : Obj) (_ : w.heap.size ≤ l) (h : W.heap[l]? = some o) (ho : o.isCells = false) (_ : o.isWalk = false) : PcRd Bs K A c V Ls W → PcRd Bs K A c V Ls (W.putObj l o') :=
  fun x => x.kept (grownBy_putObj' W l o') (fun r e => by cases e; exact ⟨o, h, ho⟩)

/-- What the loop's own memory holds. -/
def SuMem (H : Nat) (s : Nat × Nat) (W : World) : Prop :=
  Blk W H 48 #[.int .u32 ((s.1 : Nat) : Int)] ∧ Blk W (H + 1) 48 #[.int .u32 ((s.2 : Nat) : Int)]
def SuI (w : World) (pre : List Nat) (W : World) : Prop :=
  (∃ s, SuMem w.heap.size s W ∧ Su.Ok s ∧ Hid (s = Su.run Su.one (pre.map byteOf))) ∧ Below w.heap.size w W

set_option maxRecDepth 100000 in
set_option maxHeartbeats 4000000 in
theorem of_c (A : Option Addr) (c : Nat) (V : Nat → Option Addr × Nat) (Ls : List (List Nat)) (w : World) (ha : PcAt w.heap.size A V Ls w) (hn : Ls.length ≤ 100000) (hl : ∀ j, (Ls.getD j []).length ≤ 100000) (hb : ∀ x ∈ Ls.flatten, x < 256) :
    Calls Tryd.prog 22 #[.slice A Ls.length c] w fun e w' => e = .returned (.int .u32 ((Su.sum Ls.flatten : Nat) : Int)) ∧ Grew w w' := by
  have HA := hid ha
  have HBy := hid hb
  clear ha hb
  refine (callsIn_wide (n := 5)).1 ?_
  refine callsIn_of_wp_marks Tryd.func22 rfl trivial ?_ rfl
  simp only [Tryd.ntmps22, List.size_toArray, List.length_cons, List.length_nil, Nat.reduceAdd, Nat.reduceSub, Array.replicate_succ, Array.replicate_zero, List.push_toArray, List.append_toArray, List.nil_append, List.cons_append]
  gi_wp2_with (refine ⟨trivial, ?_⟩; gi_at_call 47; refine (all_in Fence.wide _ trivial rfl _ _ _ _).mono ?_; rintro e w' ⟨rfl, rfl⟩)
  obtain ⟨wx, hwx⟩ : ∃ wx, wx = ((w.alloc (.cells #[.int .u32 1] 48)).alloc (.cells #[.int .u32 0] 48)).alloc (.cells #[.slice A Ls.length c] 77) := ⟨_, rfl⟩
  have hM : SuMem w.heap.size Su.one wx ∧ wx.cell? ⟨w.heap.size + 1 + 1, 0, none⟩ = some (.slice A Ls.length c) ∧ wx.heap.size = w.heap.size + 1 + 1 + 1 ∧ Grew w wx := by
    have b1 := Blk.new w 48 #[.int .u32 ((1 : Nat) : Int)]
    have g1 := (Grew.refl w).alloc (.cells #[.int .u32 ((1 : Nat) : Int)] 48)
    have s1 : (w.alloc (.cells #[.int .u32 ((1 : Nat) : Int)] 48)).heap.size = w.heap.size + 1 := by simp
    change wx = (((w.alloc (.cells #[.int .u32 ((1 : Nat) : Int)] 48)).alloc _).alloc _) at hwx
    generalize w.alloc (.cells #[.int .u32 ((1 : Nat) : Int)] 48) = w1 at *
    have b2 := Blk.new w1 48 #[.int .u32 ((0 : Nat) : Int)]
    have g2 := (Grew.refl w1).alloc (.cells #[.int .u32 ((0 : Nat) : Int)] 48)
    have s2 : (w1.alloc (.cells #[.int .u32 ((0 : Nat) : Int)] 48)).heap.size = w1.heap.size + 1 := by simp
    change wx = ((w1.alloc (.cells #[.int .u32 ((0 : Nat) : Int)] 48)).alloc _) at hwx
    generalize w1.alloc (.cells #[.int .u32 ((0 : Nat) : Int)] 48) = w2 at *
    have b3 := Blk.new w2 77 #[.slice A Ls.length c]
    have g3 := (Grew.refl w2).alloc (.cells #[.slice A Ls.length c] 77)
    have s3 : (w2.alloc (.cells #[.slice A Ls.length c] 77)).heap.size = w2.heap.size + 1 := by simp
    rw [← hwx] at b3 g3 s3
    rw [s2, s1] at b3 s3
    rw [s1] at b2
    exact ⟨⟨(b1.grew g2).grew g3, b2.grew g3⟩, by rw [b3.cell]; rfl, s3, (g1.trans g2).trans g3⟩
  rw [← hwx]
  obtain ⟨hM, hS, hsz, hG⟩ := hM
  clear hwx
  have HS := hid hS
  have hGt := hid hG
  have HM := hid hM
  clear hS hM hG
  refine wpIn_rangeFunc_ownG rfl (by omega) (gf := 69) (lb := #[.pointer (some ⟨w.heap.size + 1 + 1, 0, none⟩)]) rfl trivial (enters_of Tryd.func69 (by kernel_rfl) rfl)
    (all_stops Fence.wide _ trivial rfl (by omega) (w.heap.size + 1 + 1) w.heap.size c A V Ls hn hl wx (fun W hW =>
      ⟨by rw [hW.cell (by simp only [hsz]; omega)]; exact HS.out, HA.out.grew (Nat.le_refl _) (hGt.out.trans (Grew.mk hW))⟩)) bw_t (fun W l o o' h1 h2 h3 h4 => pc_b (w := wx) W l o o' h1 h2 h3 h4) (Below.refl _ _) (fun _ => rfl)
    (SuI w)
    (fun _ _ _ => False)
    (fun s W W' row hs hg hr => by
      obtain ⟨⟨s, ⟨m1, m2⟩, h2, h3⟩, hB⟩ := hs
      have hr' := fun r e => (hr r e).2
      exact ⟨⟨s, ⟨m1.kept hg hr', m2.kept hg hr'⟩, h2, h3⟩, below_kept hB (Nat.le_refl _) (by omega) hg hr⟩)
    (fun _ _ _ _ _ hs _ _ => hs)
    ⟨⟨Su.one, HM.out, Su.one_ok, hid rfl⟩, hGt.out.below⟩
    ?a1 ?assign ?body ?done ?stop
  case assign =>
    intro l x W K hK
    unfold byEnc
    gi_wp2
    exact hK
  case body =>
    rintro l pre x W ⟨⟨s, ⟨m1, m2⟩, ⟨h1, h2⟩, HI⟩, hB⟩ hpn
    have HI2 := hid (show Su.st s (byteOf x) = Su.run Su.one ((pre ++ [x]).map byteOf) by
      rw [List.map_append, List.map_singleton, Su.run_snoc, ← HI.out])
    have hx := byteOf_lt x
    generalize byteOf x = v at *
    obtain ⟨a, b⟩ := s
    dsimp only at h1 h2 m1 m2
    have ca := m1.cell 0
    have cb := m2.cell 0
    have fa := m1.frozen 0
    have fb := m2.frozen 0
    simp only [List.getElem?_toArray, List.getElem?_cons_zero] at ca cb
    gi_wp2
    refine ⟨((KeepsOthers.setCell _ _ _).trans (KeepsOthers.setCell _ _ _)).from _, fun h => ?_, ⟨Su.st (a, b) v, ⟨?_, ?_⟩, Su.st_ok _ _, HI2⟩, ?_⟩
    · exact (h.far (by simp <;> omega) (by simp) _).far (by simp) (by simp) _
    · have e : ((((a : Nat) : Int) + ((v : Nat) : Int)) % 65521) = (((Su.st (a, b) v).1 : Nat) : Int) := by simp only [Su.st]; omega
      rw [e]
      exact (m1.put 0 _).far (by simp) _
    · have e : ((((b : Nat) : Int) + (((a : Nat) : Int) + ((v : Nat) : Int))) % 65521) = (((Su.st (a, b) v).2 : Nat) : Int) := by simp only [Su.st]; omega
      rw [e]
      exact (m2.far (by simp) _).put 0 _
    · exact (hB.setCell (by simp) _).setCell (by simp) _
  case done =>
    rintro D pre W hD hc ⟨⟨s, ⟨m1, m2⟩, ⟨h1, h2⟩, HI⟩, hB⟩ hK
    obtain ⟨a, b⟩ := s
    dsimp only at h1 h2 m1 m2
    have ca := m1.cell 0
    have cb := m2.cell 0
    simp only [List.getElem?_toArray, List.getElem?_cons_zero] at ca cb
    have HE := hid (show b * 65536 + a = Su.sum Ls.flatten by
      have e : pre.map byteOf = Ls.flatten := by
        rw [hc]
        conv => rhs; rw [← List.map_id Ls.flatten]
        exact List.map_congr_left fun x hx => byteOf_eq (HBy.out x hx)
      have := HI.out
      rw [e] at this
      unfold Su.sum
      rw [← this])
    have HO := hid (show bits BinOp.or IntKind.u32 (((b : Nat) : Int) * 65536) ((a : Nat) : Int) = ((b * 65536 + a : Nat) : Int) by
      rw [bits_join .u32 32 (by decide) (fun n h0 h1 => by simp [IntKind.wrap, IntKind.bits, IntKind.signed]; omega) 16 _ _ (by omega) (by omega) (by omega) (by omega) (by omega) (by omega)]; omega)
    gi_wp2
    refine ⟨by simp, .inl ⟨_, _, rfl, run_takeDeferred (w := W) hK, ?_⟩⟩
    rw [HO.out, HE.out]
    exact ⟨_, results_tmp rfl _ _ _, rfl, Grew.mk (hB.trans (belowK_b (w := wx) (by omega) W D _ _ hD hK rfl rfl))⟩
  case stop =>
    rintro D c pre W _ _ h _
    exact h.elim
end Go.Proofs.YtmcfciifjgdgoaaDoor

/- Parts of elder texts that this layer needs, joined: XYFlC. -/
import Derived.Test.YtjladeiecokpfaaGreatDoorZFlA
import Derived.Test.YtjladeiecokpfaaGreatDoorZOpM
import Derived.Test.YtjladeiecokpfaaGreatDoorZOpC
import Derived.BigQuiet
namespace Go.Proofs.YtjladeiecokpfaaGreatDoor
open Go.RowKit

/-- The least number of which something holds. -/
theorem least_ex (p : Nat → Prop) : ∀ n, p n → ∃ m, p m ∧ m ≤ n ∧ ∀ k, p k → m ≤ k := by
  intro n
  induction n using Nat.strongRecOn with
  | _ n ih =>
    intro h
    by_cases hl : ∃ k, k < n ∧ p k
    · obtain ⟨k, h1, h2⟩ := hl
      obtain ⟨m, m1, m2, m3⟩ := ih k h1 h2
      exact ⟨m, m1, by omega, m3⟩
    · exact ⟨n, h, Nat.le_refl _, fun k hk => by
        rcases Nat.lt_or_ge k n with h1 | h1
        · exact absurd ⟨k, h1, hk⟩ hl
        · exact h1⟩
theorem low_ex : ∃ low : (Nat → Prop) → Nat, ∀ p n, p n → p (low p) ∧ low p ≤ n := by
  have : ∀ p : Nat → Prop, ∃ m : Nat, ∀ n, p n → p m ∧ m ≤ n := fun p => by
    by_cases h : ∃ n, p n
    · obtain ⟨n, hn⟩ := h
      obtain ⟨m, m1, _, m3⟩ := least_ex p n hn
      exact ⟨m, fun k hk => ⟨m1, m3 k hk⟩⟩
    · exact ⟨0, fun k hk => absurd ⟨k, hk⟩ h⟩
  exact ⟨fun p => (this p).choose, fun p => (this p).choose_spec⟩
/-- Numbers, negative ones too, as cells. -/
def intCells (D : List Int) : List Value := D.map (Value.int .i64)
theorem intCells_len (D : List Int) : (intCells D).length = D.length := by simp [intCells]
theorem intCells_get (D : List Int) (i : Nat) (hi : i < D.length) : (intCells D)[i]? = some (.int .i64 (D.getD i 0)) := by
  simp [intCells, List.getD_eq_getElem?_getD, List.getElem?_eq_getElem hi]
theorem intCells_set (D : List Int) (i : Nat) (x : Int) : (intCells D).set i (.int .i64 x) = intCells (D.set i x) := by simp [intCells, List.map_set]
theorem intCells_rep (n : Nat) : (List.replicate n [Value.int .i64 (-1)]).flatten = intCells (List.replicate n (-1)) := by
  induction n with
  | zero => rfl
  | succ n ih => rw [List.replicate_succ, List.flatten_cons, ih, List.replicate_succ]; rfl
/-- A row of such. -/
def RowD (w : World) (B g n : Nat) (D : List Int) : Prop := Row w B 3 1 (some ⟨g, 0, none⟩) n n (intCells D)
theorem RowD.at {w : World} {B g n : Nat} {D : List Int} (h : RowD w B g n D) (i : Nat) (hi : i < n) : w.cell? ⟨g, i, none⟩ = some (.int .i64 (D.getD i 0)) ∧ w.frozen? ⟨g, i, none⟩ = false := by
  have hl : D.length = n := by have := h.1; rw [intCells_len] at this; omega
  rcases Row.cases h with ⟨_, _, _, ⟨h1, _⟩ | ⟨g', h1, _, _, hc, hf⟩⟩
  · cases h1
  · obtain ⟨rfl⟩ := h1
    exact ⟨hc i _ (intCells_get D i (by omega)), hf i⟩
theorem RowN.pop {w : World} {B : Nat} {A : Option Addr} {c : Nat} {W : List Nat} {i : Nat} (h : RowN w B A c (i :: W).reverse) : ∃ g, A = some ⟨g, 0, none⟩ ∧ g < w.heap.size ∧ B ≤ g ∧ w.cell? ⟨g, W.length, none⟩ = some (.int .i64 ((i : Nat) : Int)) ∧ RowN w B A c W.reverse ∧ W.length + 1 ≤ c ∧ c ≤ 9223372036854775807 := by
  have hl : (i :: W).reverse = W.reverse ++ [i] := by simp
  rcases Row.cases h with ⟨_, hcap, hm, ⟨_, h0, _⟩ | ⟨g, rfl, hb, hlt, hc, _⟩⟩
  · simp at h0
  · refine ⟨g, rfl, hlt, hb, hc W.length _ ?_, ?_, by simpa using hcap, hm⟩
    · rw [numCells_get .i64 _ _ (by simp), hl]
      simp [List.getD_eq_getElem?_getD]
    · unfold RowN at h
      rw [hl, numCells_append] at h
      exact Row.cut h (numCells_length _ _)
/-- As far as the work has come. -/
def DepR (wb : World) (B g n : Nat) (l : List Op7.Ins) (G : List (List Nat)) (f : Nat) (s : Value) (wr : World) : Prop :=
  ∃ (D : List Int) (W : List Nat) (A : Option Addr) (c : Nat), s = .slice A W.length c ∧ RowD wr B g n D ∧ RowN wr B A c W.reverse ∧ ¬ AtRow A g ∧ (∀ i ∈ W, i < n) ∧ (∀ i, -1 ≤ D.getD i 0 ∧ D.getD i 0 ≤ 32) ∧ Fl.left D W < f ∧ f ≤ 2 * n + 2 ∧ Fl.run l G f D W = Fl.depths l G ∧ Grew wb wr
def DepPost (w : World) (n : Nat) (r : Option (List Int)) (e : Ending) (w' : World) : Prop :=
  (e = .returned (.tuple #[.slice none 0 0, .bool false]) ∧ r = none ∧ Grew w w') ∨ ∃ g D, e = .returned (.tuple #[.slice (some ⟨g, 0, none⟩) n n, .bool true]) ∧ r = some D ∧ RowD w' w.heap.size g n D ∧ Grew w w'
set_option maxRecDepth 100000 in
set_option maxHeartbeats 4000000 in
theorem depths_c (A1 : Option Addr) (c1 : Nat) (A2 : Option Addr) (c2 n gg Bg : Nat) (l : List Op7.Ins) (os : List Nat) (vs : List Value) (G : List (List Nat)) (w : World) (h : CodeAt w A1 A2 c2 n l os) (hG : GraphAt w Bg gg n vs G) (hv : vs.length = n) (hgl : G.length = n) (hs : ∀ s ∈ G, ∀ i ∈ s, i < n) (hn1 : 1 ≤ n) :
    Calls Tryz.prog 153 #[.agg #[.slice A1 n c1, .slice A2 n c2], .slice (some ⟨gg, 0, none⟩) n n] w (DepPost w n (Fl.depths l G)) := by
  have H := hid h
  have HG := hid hG
  have HV := hid hv
  have HGL := hid hgl
  have HS := hid hs
  have hn := h.few
  obtain ⟨low, hlow⟩ := low_ex
  have HLow := hid hlow
  have HB := hid (((Grew.refl w).alloc (.cells #[.slice A1 n c1, .slice A2 n c2] 218)))
  have HR := hid (fun (w' : World) (bx : Nat) (hb : Blk w' bx 3 #[.int .i64 (-1)]) => repInt bx n [.int .i64 (-1)] w' (fun j v hv => by rw [hb.cell j]; simpa using hv) hb.lt rfl (by simp [Value.oneCell']) hn1 (by omega))
  clear h hG hs hv hgl hlow
  have HX : Hid (Blk ((w.alloc (.cells #[.slice A1 n c1, .slice A2 n c2] 218)).alloc (.cells #[.int .i64 (-1)] 3)) (w.heap.size + 1) 3 #[.int .i64 (-1)]) := hid (by
    have := Blk.new (w.alloc (.cells #[.slice A1 n c1, .slice A2 n c2] 218)) 3 #[.int .i64 (-1)]
    rwa [World.size_alloc] at this)
  go_enter Tryz.func153, Tryz.ntmps153
  go_wp2_with fail
  refine (HR.out _ _ HX.out).mono ?_
  rintro e w2 ⟨g, us, rfl, hus, hrow, hg2⟩
  obtain ⟨y2, rfl⟩ := ((Grew.refl (w.alloc (.cells #[.slice A1 n c1, .slice A2 n c2] 218))).alloc (.cells #[.int .i64 (-1)] 3)).trans hg2
  rw [hus, intCells_rep] at hrow
  have hD0 : RowD y2.w (w.heap.size + 1) g n (List.replicate n (-1)) := Row.low hrow (by simp only [World.size_alloc]; omega)
  obtain ⟨hgl, hgs⟩ := Row.lt' hD0
  obtain ⟨qc, qf⟩ := hD0.at 0 hn1
  have HD0 := hid hD0
  have f0 : (0 : Int) < n := by omega
  clear hus hrow hg2 hD0 HR HX
  go_wp2_with fail
  clear qc qf
  have HD1 : Hid (RowD (y2.w.setCell ⟨g, 0, none⟩ (.int .i64 0)) (w.heap.size + 1) g n ((List.replicate n (-1)).set 0 0)) := hid (by
    have := Row.set HD0.out 0 (.int .i64 0)
    rw [intCells_set] at this
    exact this)
  have HB3 : Hid (Grew (w.alloc (.cells #[.slice A1 n c1, .slice A2 n c2] 218)) (y2.w.setCell ⟨g, 0, none⟩ (.int .i64 0))) := hid (y2.grew.setCell (by simp only [World.size_alloc]; omega) _)
  have HSZ : Hid ((y2.w.setCell ⟨g, 0, none⟩ (.int .i64 0)).heap.size = y2.w.heap.size) := hid (by simp [World.setCell])
  generalize y2.w.setCell ⟨g, 0, none⟩ (.int .i64 0) = W3 at *
  have HW : Hid (RowN (W3.alloc (.cells #[.int .i64 0] 3)) (w.heap.size + 1) (some ⟨W3.heap.size, 0, none⟩) 1 [0]) := hid (Row.of_blk (s := 1) (n := 1) (Blk.new W3 3 #[.int .i64 0]) (by rw [HSZ.out]; omega) rfl (by decide))
  go_loopw [7] (fun s7 wr => ∃ f, DepR (w.alloc (.cells #[.slice A1 n c1, .slice A2 n c2] 218)) (w.heap.size + 1) g n l G f s7 wr) (fun s7 wr => low (fun f => DepR (w.alloc (.cells #[.slice A1 n c1, .slice A2 n c2] 218)) (w.heap.size + 1) g n l G f s7 wr))
  case atStart =>
    refine ⟨2 * l.length + 2, (List.replicate n (-1)).set 0 0, [0], some ⟨W3.heap.size, 0, none⟩, 1, by rw [HSZ.out]; rfl, (by exact Row.grew HD1.out ((Grew.refl W3).alloc _)), HW.out, ?_, fun i hi => ?_, fun i => ?_, ?_, by rw [← H.out.l1]; omega, ?_, HB3.out.alloc _⟩
    · rintro ⟨ad, h1, h2⟩
      obtain rfl := Option.some.inj h1
      have := HSZ.out
      simp only at h2
      omega
    · obtain rfl := List.mem_singleton.1 hi
      exact hn1
    · rw [Fl.start_getD]
      split <;> omega
    · unfold Fl.left
      have h1 : ((List.replicate n (-1 : Int)).set 0 0).count (-1) ≤ n := by
        have := List.count_le_length (a := (-1 : Int)) (l := (List.replicate n (-1 : Int)).set 0 0)
        rwa [List.length_set, List.length_replicate] at this
      have := H.out.l1
      simp only [List.length_singleton]
      omega
    · unfold Fl.depths
      rw [← H.out.l1]
  case round =>
    obtain ⟨f0, hf0⟩ := hrel
    obtain ⟨hq, _⟩ := HLow.out (fun f => DepR (w.alloc (.cells #[.slice A1 n c1, .slice A2 n c2] 218)) (w.heap.size + 1) g n l G f u7 wr) f0 hf0
    have HM := hid (fun (s : Value) (w' : World) (f' : Nat) (h1 : DepR (w.alloc (.cells #[.slice A1 n c1, .slice A2 n c2] 218)) (w.heap.size + 1) g n l G f' s w') (h2 : f' < low fun f => DepR (w.alloc (.cells #[.slice A1 n c1, .slice A2 n c2] 218)) (w.heap.size + 1) g n l G f u7 wr) => Nat.lt_of_le_of_lt (HLow.out (fun f => DepR (w.alloc (.cells #[.slice A1 n c1, .slice A2 n c2] 218)) (w.heap.size + 1) g n l G f s w') f' h1).2 h2)
    clear hf0 HD1 HW HSZ HB3 HD0
    show Code.wp _ _ (Exit.then (fun a' w' => _ ∧ _ < low fun f => DepR (w.alloc (.cells #[.slice A1 n c1, .slice A2 n c2] 218)) (w.heap.size + 1) g n l G f u7 wr) _) _ _
    generalize (low fun f => DepR (w.alloc (.cells #[.slice A1 n c1, .slice A2 n c2] 218)) (w.heap.size + 1) g n l G f u7 wr) = m0 at *
    obtain ⟨D, W, A, c, hs7, hD, hN, hA, hW, hb, hl, hm0, hrun, y4, rfl⟩ := hq
    have HD := hid hD
    have HN := hid hN
    have HA := hid hA
    have HWn := hid hW
    have HBd := hid hb
    have HRun := hid hrun
    have HL := hid hl
    clear hD hN hA hW hb hrun hl
    cases W with
    | nil =>
      subst hs7
      have HX : Hid (Fl.depths l G = some D) := hid (by
        have h1 := HL.out
        obtain ⟨f', rfl⟩ : ∃ f', m0 = f' + 1 := ⟨m0 - 1, by omega⟩
        rw [← HRun.out]; rfl)
      go_wp2_with fail
      go_ret2
      exact .inr ⟨g, D, rfl, HX.out, Row.low HD.out (by omega), HB.out.trans y4.grew⟩
    | cons i W =>
      obtain ⟨k, hk⟩ : ∃ k, k = W.length := ⟨_, rfl⟩
      rw [List.length_cons, ← hk] at hs7
      subst hs7
      have hin : i < n := HWn.out i (by simp)
      obtain ⟨hh, rfl, hhs, hhB, qk, hN2, hkc, hcm⟩ := RowN.pop HN.out
      rw [← hk] at qk hkc
      have HN2 := hid hN2
      have HK := hid hk
      clear hk hN2
      obtain ⟨o, ho⟩ : ∃ o, l[i]? = some o := ⟨_, List.getElem?_eq_getElem (show i < l.length by rw [← H.out.l1]; exact hin)⟩
      obtain ⟨ad, rfl, hb, hc⟩ := H.out.ops.2 (by rw [← H.out.l1]; omega)
      obtain ⟨q0, q1, q2⟩ := op_cell (o := o) (i := i) (ad := ad) (w := y4.w) (fun j u hu => by
        rw [(HB.out.trans y4.grew).below.cell (by rw [block_add]; exact hb)]; exact hc i o ho j u hu)
      obtain ⟨s, hsg⟩ : ∃ s, G[i]? = some s := ⟨_, List.getElem?_eq_getElem (by rw [HGL.out]; exact hin)⟩
      obtain ⟨As, ks, hvs, hNs⟩ := HG.out.each i s hsg
      have HGr4 := hid (HG.out.grew (HB.out.trans y4.grew))
      obtain ⟨qg, _⟩ := HGr4.out.row.cellAt i (by rw [HV.out]; exact hin)
      rw [show vs[i]'(by rw [HV.out]; exact hin) = Value.slice As s.length ks by
        have := List.getElem?_eq_getElem (show i < vs.length by rw [HV.out]; exact hin)
        rw [hvs] at this
        exact (Option.some.inj this).symm] at qg
      have HNs := hid hNs
      have HSs := hid (HS.out s (List.mem_of_getElem? hsg))
      obtain ⟨qd, _⟩ := HD.out.at i hin
      have HBi := HBd.out i
      have HFit := H.out.fit o (List.mem_of_getElem? ho)
      have HStep : Hid (∃ f', m0 = f' + 1 ∧ Fl.left D W < f' ∧ Fl.depths l G = if Fl.may o (D.getD i 0) then (Fl.visit (Fl.after o (D.getD i 0)) s D W).bind (fun p => Fl.run l G f' p.1 p.2) else none) := hid (by
        have h1 := HL.out
        unfold Fl.left at h1
        rw [List.length_cons] at h1
        refine ⟨m0 - 1, by omega, by unfold Fl.left; omega, ?_⟩
        rw [← HRun.out, show m0 = (m0 - 1) + 1 by omega]
        show (if Fl.may (l.getD i ⟨0, 0, 0⟩) (D.getD i 0) then (Fl.visit (Fl.after (l.getD i ⟨0, 0, 0⟩) (D.getD i 0)) (G.getD i []) D W).bind (fun p => Fl.run l G (m0 - 1) p.1 p.2) else none) = _
        rw [show l.getD i ⟨0, 0, 0⟩ = o by rw [List.getD_eq_getElem?_getD, ho]; rfl, show G.getD i [] = s by rw [List.getD_eq_getElem?_getD, hsg]; rfl]
        rfl)
      have HMay := hid (@Fl.may_nonneg o (D.getD i 0))
      have CD := hid (fun (w' : World) (hg : Grew y4.w w') => Calls.after hg (depthAfter_c o (D.getD i 0) w' HFit.2 HBi))
      generalize Fl.may o (D.getD i 0) = mb at *
      generalize Fl.after o (D.getD i 0) = a at *
      generalize D.getD i 0 = d at *
      have hws : w.heap.size < y4.w.heap.size := by omega
      have hab : ad.block < y4.w.heap.size := by omega
      have hgs4 : g < y4.w.heap.size := (Row.lt' HD.out).2
      have hgg4 : gg < y4.w.heap.size := (Row.lt' HGr4.out.row).2
      obtain ⟨cd, oa, ob⟩ := o
      unfold opCells at CD
      simp only at q0 q1 q2 CD
      clear hc ho hsg hvs hNs HFit
      obtain ⟨m, hm⟩ : ∃ m, m = s.length := ⟨_, rfl⟩
      rw [← hm] at qg
      have HMm := hid hm
      have hmx : m ≤ 9223372036854775807 := by rw [hm]; have := Row.cases HNs.out; omega
      clear hm
      have f1 : (i : Int) < n := by omega
      have f2 : (k : Int) + 1 - 1 = k := by omega
      go_wp2_with fail
      refine wp_region_grew_from (Grew.refl _) (by kernel_rfl) (by kernel_rfl) ?_
      repeat (go_big_quiet_step ((go_at_call 178; exact CD.out _ (After.grew _))))
      refine wpQuiet_nil ?_
      rintro _ ⟨y5, rfl⟩
      clear CD q0 q1 q2 qd qk
      obtain ⟨f', hf'1, hf'2, hstep⟩ := HStep.out
      have HSt := hid hstep
      have HF1 := hid hf'1
      have HF2 := hid hf'2
      clear HStep hstep hf'1 hf'2
      cases mb
      · have HX : Hid (Fl.depths l G = none) := hid (by rw [HSt.out]; rfl)
        go_wp2_with fail
        go_ret2
        exact .inl ⟨rfl, HX.out, HB.out.trans (y4.grew.trans y5.grew)⟩
      · obtain ⟨ha0, ha1, _⟩ := HMay.out rfl
        replace HSt : Hid (Fl.depths l G = (Fl.visit a s D W).bind fun p => Fl.run l G f' p.1 p.2) := hid (by rw [HSt.out]; rfl)
        go_wp2_with fail
        clear qg
        go_loopw [7, 55] (fun s7 s55 wr => ∃ (j : Nat) (D : List Int) (W : List Nat) (A : Option Addr) (c : Nat), s7 = .slice A W.length c ∧ s55 = .int .i64 ((j : Nat) : Int) ∧ j ≤ m ∧ Hid (RowD wr (w.heap.size + 1) g n D ∧ RowN wr (w.heap.size + 1) A c W.reverse ∧ ¬ AtRow A g ∧ (∀ i ∈ W, i < n) ∧ (∀ i, -1 ≤ D.getD i 0 ∧ D.getD i 0 ≤ 32) ∧ Fl.left D W < f' ∧ Fl.depths l G = (Fl.visit a (s.drop j) D W).bind fun p => Fl.run l G f' p.1 p.2) ∧ (∃ y : After (w.alloc (.cells #[.slice (some ad) n c1, .slice A2 n c2] 218)), wr = y.w)) (fun _ s55 _ => m - (intOf s55).toNat)
        case atStart => exact ⟨0, D, W, _, c, by rw [← HK.out], rfl, Nat.zero_le _, hid ⟨Row.grew HD.out y5.grew, HN2.out.grew y5.grew, HA.out, fun i hi => HWn.out i (by simp [hi]), HBd.out, HF2.out, HSt.out⟩, y4.grew.trans y5.grew⟩
        case round =>
          clear HD HN HN2 HA HBd HWn HRun HL HK HSt HF2 HGr4
          obtain ⟨j, D, W, A, c, rfl, rfl, hj, HI, y6, rfl⟩ := hrel
          have HLn : Hid (W.length ≤ 2000) := hid (by
            have h1 := HI.out.2.2.2.2.2.1
            have h2 := HF1.out
            unfold Fl.left at h1
            omega)
          by_cases hjm : j < m
          · have f3 : (j : Int) < m := by omega
            obtain ⟨x, hx⟩ : ∃ x, s[j]? = some x := ⟨_, List.getElem?_eq_getElem (by rw [← HMm.out]; exact hjm)⟩
            have hxn : x < n := HSs.out x (List.mem_of_getElem? hx)
            have hxn2 : (x : Int) < n := by omega
            have hdr : s.drop j = x :: s.drop (j + 1) := by
              obtain ⟨h1, rfl⟩ := List.getElem?_eq_some_iff.1 hx
              exact List.drop_eq_getElem_cons h1
            rcases Row.cases (HNs.out.grew (HB.out.trans y6.grew)) with ⟨_, _, _, ⟨_, h0, _⟩ | ⟨gs, rfl, _, hgsl, hcs, _⟩⟩
            · exfalso
              have := HMm.out
              omega
            have qx : y6.w.cell? ⟨gs, j, none⟩ = some (.int .i64 ((x : Nat) : Int)) := hcs j _ (by
              rw [numCells_get .i64 s j (by rw [← HMm.out]; exact hjm), List.getD_eq_getElem?_getD, hx]; rfl)
            obtain ⟨qd, qf⟩ := HI.out.1.at x hxn
            have HVis : Hid (Fl.visit a (s.drop j) D W = if D.getD x 0 = -1 then Fl.visit a (s.drop (j + 1)) (D.set x a) (x :: W) else if D.getD x 0 = a then Fl.visit a (s.drop (j + 1)) D W else none) := hid (by
              rw [hdr]; rfl)
            have hws6 : w.heap.size < y6.w.heap.size := by have := y6.b.size; simp only [World.size_alloc] at this; omega
            clear hcs hdr hx
            by_cases hd1 : D.getD x 0 = -1
            · have e1 : (D.getD x 0 == -1) = true := by rw [beq_iff_eq]; exact hd1
              have ha : a ≠ -1 := by omega
              have HN7 := hid (show Fl.depths l G = (Fl.visit a (s.drop (j + 1)) (D.set x a) (x :: W)).bind fun p => Fl.run l G f' p.1 p.2 by
                rw [HI.out.2.2.2.2.2.2, HVis.out, if_pos hd1])
              have hDl : D.length = n := by have := HI.out.1.1; rw [intCells_len] at this; omega
              have HLe := hid (show Fl.left (D.set x a) (x :: W) < f' by
                have h1 := Fl.count_set (by rw [hDl]; exact hxn) hd1 ha
                have h2 := HI.out.2.2.2.2.2.1
                unfold Fl.left at h2 ⊢
                rw [List.length_cons]
                omega)
              have HBd2 := hid (show ∀ i, -1 ≤ (D.set x a).getD i 0 ∧ (D.set x a).getD i 0 ≤ 32 from fun i => by
                rw [Fl.getD_set]
                split
                · omega
                · exact HI.out.2.2.2.2.1 i)
              have hgs6 := (Row.lt' HI.out.1).2
              have HSt2 := hid (show Grew (w.alloc (.cells #[.slice (some ad) n c1, .slice A2 n c2] 218)) (y6.w.setCell ⟨g, x, none⟩ (.int .i64 a)) from y6.grew.setCell (by simp only [World.size_alloc]; omega) _)
              have HD7 : Hid (RowD (y6.w.setCell ⟨g, x, none⟩ (.int .i64 a)) (w.heap.size + 1) g n (D.set x a)) := hid (by
                have := Row.set HI.out.1 x (.int .i64 a)
                rw [intCells_set] at this
                exact this)
              have HK7 : Hid (Kept (fun k => k = g) y6.w (y6.w.setCell ⟨g, x, none⟩ (.int .i64 a))) := hid ((Kept.refl (fun k => k = g) y6.w).setCell (p := ⟨g, x, none⟩) (fun _ => rfl) _)
              have HR7 := hid (Row.kept HI.out.2.1 HK7.out (fun g' hg' e => HI.out.2.2.1 ⟨_, hg', e⟩))
              have hSz : (y6.w.setCell ⟨g, x, none⟩ (.int .i64 a)).heap.size = y6.w.heap.size := by simp [World.setCell]
              rw [hd1] at qd
              clear hd1 e1 HVis
              have HFar : Hid (∀ g', (some (⟨g, 0, none⟩ : Addr)) = some ⟨g', 0, none⟩ → ¬ AtRow A g') := hid (by
                intro g' hg'
                obtain rfl : g = g' := by simpa using hg'
                exact HI.out.2.2.1)
              have HGet : Hid ((D.set x a).getD x 0 = a) := hid (by rw [Fl.getD_set, if_pos ⟨rfl, by omega⟩])
              clear hDl
              go_wp2_with (at_builtin; refine wpList_pushN (y6.w.setCell ⟨g, x, none⟩ (.int .i64 a)) rfl _ _ rfl (w.heap.size + 1) (by rw [hSz]; omega) A c W.reverse W.length (by simp) rfl HR7.out x _ hSz rfl _ rfl (by have := HLn.out; omega) ?_; rintro A8 c8 W8 hO8 hK8 hT8; have HO8 := hid hO8; have HK8 := hid hK8; have HT8 := hid hT8; clear hO8 hK8 hT8; have HD8 := hid (Row.kept HD7.out HK8.out HFar.out); obtain ⟨qd8, _⟩ := RowD.at HD8.out x hxn; rw [HGet.out] at qd8)
              go_round
              case rel => exact ⟨j + 1, D.set x a, x :: W, A8, c8, rfl, by go_num, by omega, hid ⟨HD8.out, by rw [List.reverse_cons]; exact HO8.out, RowTo.not_at HT8.out HI.out.2.2.1 (by rw [hSz]; exact hgs6), fun i' hi' => by
                rcases List.mem_cons.1 hi' with rfl | hi'
                · exact hxn
                · exact HI.out.2.2.2.1 i' hi', HBd2.out, HLe.out, HN7.out⟩, HK8.out.grew HSt2.out (fun k' hk' => by have := Row.at_base HR7.out k' hk'; simp only [World.size_alloc]; exact this)⟩
              case measure => simp [intOf]; omega
            · have e1 : (D.getD x 0 == -1) = false := by rw [beq_eq_false_iff_ne]; exact hd1
              by_cases hd2 : D.getD x 0 = a
              · have e2 : (a != a) = false := by simp
                have e3 : (a == -1) = false := by rw [beq_eq_false_iff_ne]; omega
                have HN7 := hid (show Fl.depths l G = (Fl.visit a (s.drop (j + 1)) D W).bind fun p => Fl.run l G f' p.1 p.2 by
                  rw [HI.out.2.2.2.2.2.2, HVis.out, if_neg hd1, if_pos hd2])
                rw [hd2] at qd
                clear hd2 hd1 e1 HVis
                go_wp2_with fail
                go_round
                case rel => exact ⟨j + 1, D, W, A, c, rfl, by go_num, by omega, hid ⟨HI.out.1, HI.out.2.1, HI.out.2.2.1, HI.out.2.2.2.1, HI.out.2.2.2.2.1, HI.out.2.2.2.2.2.1, HN7.out⟩, y6.grew⟩
                case measure => simp [intOf]; omega
              · have e2 : (D.getD x 0 != a) = true := by rw [bne_iff_ne]; exact hd2
                have HX : Hid (Fl.depths l G = none) := hid (by
                  rw [HI.out.2.2.2.2.2.2, HVis.out, if_neg hd1, if_neg hd2]; rfl)
                generalize D.getD x 0 = dx at *
                clear hd2 hd1 HVis
                go_wp2_with fail
                go_ret2
                exact .inl ⟨rfl, HX.out, HB.out.trans y6.grew⟩
          · obtain rfl : j = m := by omega
            have HN7 := hid (show Fl.run l G f' D W = Fl.depths l G by
              rw [HI.out.2.2.2.2.2.2, List.drop_of_length_le (by rw [← HMm.out]; exact Nat.le_refl _)]; rfl)
            have HDep : Hid (∃ f2, DepR (w.alloc (.cells #[.slice (some ad) n c1, .slice A2 n c2] 218)) (w.heap.size + 1) g n l G f2 (.slice A W.length c) y6.w ∧ f2 < m0) := hid ⟨f', ⟨D, W, A, c, rfl, HI.out.1, HI.out.2.1, HI.out.2.2.1, HI.out.2.2.2.1, HI.out.2.2.2.2.1, HI.out.2.2.2.2.2.1, by have := HF1.out; omega, HN7.out, y6.grew⟩, by rw [HF1.out]; omega⟩
            go_wp2_with fail
            go_round
            case rel => obtain ⟨f2, h1, _⟩ := HDep.out; exact ⟨f2, h1⟩
            case measure => obtain ⟨f2, h1, h2⟩ := HDep.out; exact HM.out _ _ f2 h1 h2
end Go.Proofs.YtjladeiecokpfaaGreatDoor
namespace Go.Proofs.YtjladeiecokpfaaGreatDoor
open Go.RowKit

theorem int_zero (n : Nat) : List.replicate n (Value.int .i64 0) = intCells (List.replicate n 0) := by simp [intCells]
theorem RowD.len {w : World} {B g n : Nat} {D : List Int} (h : RowD w B g n D) : D.length = n := by
  have := h.1
  rw [intCells_len] at this
  omega
theorem RowD.grew' {w w' : World} {B g n : Nat} {D : List Int} (h : RowD w B g n D) (hg : Grew w w') : RowD w' B g n D := Row.grew h hg
theorem RowD.lt' {w : World} {B g n : Nat} {D : List Int} (h : RowD w B g n D) : B ≤ g ∧ g < w.heap.size := Row.lt' h
theorem RowD.set {w : World} {B g n : Nat} {D : List Int} (h : RowD w B g n D) (i : Nat) (x : Int) : RowD (w.setCell ⟨g, i, none⟩ (.int .i64 x)) B g n (D.set i x) := by
  have := Row.set h i (.int .i64 x)
  rw [intCells_set] at this
  exact this
theorem offsF_up (k : Nat) (l : List Op7.Ins) : (Op7.offsF k l).Pairwise (· < ·) := by
  induction l generalizing k with
  | nil => exact List.Pairwise.nil
  | cons o l ih =>
    have hp := Op7.size_pos o.code
    simp only [Op7.offsF, List.pairwise_cons]
    refine ⟨fun x hx => ?_, ih _⟩
    have : ∀ (k : Nat) (l : List Op7.Ins), ∀ x ∈ Op7.offsF k l, k ≤ x := by
      intro k l
      induction l generalizing k with
      | nil => simp [Op7.offsF]
      | cons o l ih =>
        intro x hx
        simp only [Op7.offsF, List.mem_cons] at hx
        rcases hx with rfl | hx
        · exact Nat.le_refl _
        · have := ih _ x hx
          omega
    have := this _ _ x hx
    omega
theorem decR_ok {b : List Nat} {l : List Op7.Ins} {os : List Nat} (hb : ∀ x ∈ b, x < 256) (h : Op7.decR b = (l, os, 0)) : os = Op7.offs l ∧ (∀ o ∈ l, Op7.valid o) ∧ b = Op7.encs l ∧ b.length ≤ 512 := by
  unfold Op7.decR at h
  split at h
  · simp at h
  · rename_i h5
    cases hd : Op7.dec b with
    | none => rw [hd] at h; simp at h
    | some m =>
      rw [hd] at h
      simp only [Prod.mk.injEq] at h
      obtain ⟨rfl, rfl, _⟩ := h
      obtain ⟨h1, h2⟩ := Op7.dec_some hb hd
      exact ⟨rfl, h1, h2, by omega⟩
theorem valid_fit {o : Op7.Ins} (h : Op7.valid o) : 0 ≤ o.a ∧ 0 ≤ o.b ∧ o.b ≤ 65536 := by
  obtain ⟨_, ⟨a0, _⟩, b0, b1⟩ := h
  refine ⟨a0, b0, ?_⟩
  have hw := (Op7.wid_le o.code).2
  have : ((256 : Int) ^ (Op7.wid o.code).2) ≤ 256 ^ 2 := by
    rcases (by omega : (Op7.wid o.code).2 = 0 ∨ (Op7.wid o.code).2 = 1 ∨ (Op7.wid o.code).2 = 2) with e | e | e <;> rw [e] <;> decide
  omega
/-- What 'decode' answers. -/
def DcPost (w : World) (b : List Nat) (e : Ending) (w' : World) : Prop :=
  (∃ l os k, e = .returned (.tuple #[.agg #[.slice none 0 0, .slice none 0 0], .iface 75 (.int .i64 ((k : Nat) : Int))]) ∧ Op7.decR b = (l, os, k) ∧ k ≠ 0 ∧ Grew w w') ∨
  ∃ A1 c1 A2 c2 n l os, e = .returned (.tuple #[.agg #[.slice A1 n c1, .slice A2 n c2], .nilIface]) ∧ Op7.decR b = (l, os, 0) ∧ CodeAt w' A1 A2 c2 n l os ∧ n ≤ c1 ∧ c1 ≤ 9223372036854775807 ∧ Grew w w'
set_option maxRecDepth 100000 in
set_option maxHeartbeats 2000000 in
theorem decode_c (A : Option Addr) (c : Nat) (bs : List Nat) (w : World) (h : BytesAt w w.heap.size A bs) (hT : TabAt w) (hc : bs.length ≤ c) (hc2 : c ≤ 9223372036854775807) :
    Calls Tryz.prog 151 #[.slice A bs.length c] w (DcPost w bs) := by
  have HB := hid h.1
  have hg0 := (Grew.refl w).alloc (.cells #[.slice none 0 0, .slice none 0 0] 218)
  have HD := hid (odecode_c A c bs (w.alloc (.cells #[.slice none 0 0, .slice none 0 0] 218)) (h.grew hg0) (hT.grew hg0) hc hc2)
  have HG := hid hg0
  have HBk := hid (Blk.new w 218 #[.slice none 0 0, .slice none 0 0])
  clear h hT hg0 hc hc2
  generalize bs.length = n0 at *
  go_enter Tryz.func151, Tryz.ntmps151
  go_wp2_with fail
  refine HD.out.mono ?_
  rintro e w1 ⟨A1, c1, A2, c2, L, rfl, hL, hI, hN, y1, rfl⟩
  have HG1 := hid (HG.out.trans y1.grew)
  have HB1 := hid (HBk.out.grew y1.grew)
  obtain ⟨l, os, k, hr⟩ : ∃ l os k, Op7.decR bs = (l, os, k) := ⟨_, _, _, rfl⟩
  rw [hr] at hL hN ⊢
  simp only at hL hN ⊢
  subst hL
  have HR := hid hr
  have q0 := HB1.out.cell 0
  have q1 := HB1.out.cell 1
  have q2 := HB1.out.frozen 0
  have q3 := HB1.out.frozen 1
  simp only [List.getElem?_toArray, List.getElem?_cons_zero, List.getElem?_cons_succ] at q0 q1
  clear hr HD
  by_cases hk : k = 0
  · subst hk
    obtain ⟨rfl, hv, hbe, h5⟩ := decR_ok HB.out HR.out
    have hll : L.length ≤ 512 := by
      have := Op7.encs_long L
      rw [← hbe] at this
      omega
    obtain ⟨n, hn⟩ : ∃ n, n = L.length := ⟨_, rfl⟩
    have hcap := hI.1.cases
    have HX : Hid (∀ w', Kept (fun k => k = w.heap.size) y1.w w' → CodeAt w' A1 A2 c2 n L (Op7.offs L)) := hid (fun w' hk => ⟨RowI.ops ⟨hI.1.kept hk (fun g e1 e2 => by have := Row.at_base hI.1 g ⟨_, e1, rfl⟩; simp only [World.size_alloc] at this; omega), hI.2⟩, Row.low (Row.kept hN hk (fun g e1 e2 => by have := Row.at_base hN g ⟨_, e1, rfl⟩; simp only [World.size_alloc] at this; omega)) (Nat.zero_le _), hn, by rw [hn, Op7.offs_len], offsF_up 0 L, by omega, fun o ho => valid_fit (hv o ho)⟩)
    have HC1 : Hid (n ≤ c1 ∧ c1 ≤ 9223372036854775807) := hid ⟨by rw [hn]; exact hcap.2.1, hcap.2.2.1⟩
    rw [show errVal 0 = .nilIface from rfl, ← hn]
    clear hI hN hv hbe h5 hll hn hcap
    go_wp2_with fail
    refine bodyPost_ret (v := .tuple #[.agg #[.slice A1 n c1, .slice A2 n c2], .nilIface]) ?_ rfl ?_
    · simp [results, Tryz.results151, go_sem, *]
    · have hK := ((Kept.refl (fun k => k = w.heap.size) y1.w).setCell (p := ⟨w.heap.size, 0, none⟩) (fun _ => rfl) (.slice A1 n c1)).setCell (p := ⟨w.heap.size, 1, none⟩) (fun _ => rfl) (.slice A2 n c2)
      exact .inr ⟨_, _, _, _, _, _, _, rfl, HR.out, HX.out _ hK, HC1.out.1, HC1.out.2, hK.grew HG1.out (fun k e => by subst e; exact Nat.le_refl _)⟩
  · rw [show errVal k = .iface 75 (.int .i64 k) by unfold errVal; rw [if_neg hk]]
    have HK := hid hk
    clear hI hN hk
    go_wp2_with fail
    refine bodyPost_ret (v := .tuple #[.agg #[.slice none 0 0, .slice none 0 0], .iface 75 (.int .i64 k)]) ?_ rfl ?_
    · simp [results, Tryz.results151, go_sem, *]
    · have hK := ((Kept.refl (fun k => k = w.heap.size) y1.w).setCell (p := ⟨w.heap.size, 0, none⟩) (fun _ => rfl) (.slice none 0 0)).setCell (p := ⟨w.heap.size, 1, none⟩) (fun _ => rfl) (.slice none 0 0)
      exact .inl ⟨_, _, _, rfl, HR.out, HK.out, hK.grew HG1.out (fun k e => by subst e; exact Nat.le_refl _)⟩
/-- What 'analyze' answers. -/
def AnPost (w : World) (b : List Nat) (e : Ending) (w' : World) : Prop :=
  (∃ k, e = .returned (.tuple #[.slice none 0 0, .slice none 0 0, .iface 75 (.int .i64 ((k : Nat) : Int))]) ∧ Fl.Bad b k ∧ Grew w w') ∨
  ∃ gG gD n vs l os G D, e = .returned (.tuple #[.slice (some ⟨gG, 0, none⟩) n n, .slice (some ⟨gD, 0, none⟩) n n, .nilIface]) ∧ Fl.Well b l os G D ∧ n = l.length ∧ os.length = l.length ∧ n ≤ 512 ∧ vs.length = n ∧ GraphAt w' w.heap.size gG n vs G ∧ RowD w' w.heap.size gD n D ∧ Grew w w'
theorem GraphAt.low {w : World} {B B' g c : Nat} {vs : List Value} {G : List (List Nat)} (h : GraphAt w B g c vs G) (hB : B' ≤ B) : GraphAt w B' g c vs G := ⟨h.row.low hB, h.each⟩
set_option maxRecDepth 100000 in
set_option maxHeartbeats 4000000 in
theorem analyze_c (A : Option Addr) (c : Nat) (bs : List Nat) (w : World) (h : BytesAt w w.heap.size A bs) (hT : TabAt w) (hc : bs.length ≤ c) (hc2 : c ≤ 9223372036854775807) :
    Calls Tryz.prog 130 #[.slice A bs.length c] w (AnPost w bs) := by
  have HD := hid (decode_c A c bs w h hT hc hc2)
  clear h hT hc hc2
  generalize bs.length = n0 at *
  go_enter Tryz.func130, Tryz.ntmps130
  go_wp2_with fail
  refine HD.out.mono ?_
  clear HD
  rintro e w1 (⟨l, os, k, rfl, hr, hk, hg1⟩ | ⟨A1, c1, A2, c2, n, l, os, rfl, hr, hC, hn1, hn2, hg1⟩)
  · have HX : Hid (Fl.Bad bs k) := hid ⟨l, os, .inl ⟨hr, hk⟩⟩
    have HG := hid (hg1.alloc (.cells #[.slice none 0 0, .slice none 0 0] 218))
    clear hr hk hg1
    go_wp2_with fail
    go_ret3
    exact .inl ⟨k, rfl, HX.out, HG.out⟩
  · have HR := hid hr
    have HC := hid hC
    have HG := hid hg1
    have HG2 := hid (hg1.alloc (.cells #[.slice A1 n c1, .slice A2 n c2] 218))
    have HGC := hid (graph_c A1 c1 A2 c2 n l os (w1.alloc (.cells #[.slice A1 n c1, .slice A2 n c2] 218)) (hC.grew ((Grew.refl _).alloc _)))
    clear hr hC hg1
    go_wp2_with fail
    refine HGC.out.mono ?_
    clear HGC
    rintro e w2 (⟨rfl, hgr, hg2⟩ | ⟨gG, vs, G, rfl, hgr, hvl, hGA, y2, rfl⟩)
    · have HX : Hid (Fl.Bad bs 8) := hid ⟨l, os, .inr ⟨HR.out, rfl, .inl hgr⟩⟩
      have HG3 := hid (HG2.out.trans hg2)
      clear hgr hg2
      go_wp2_with fail
      go_ret3
      exact .inl ⟨8, rfl, HX.out, HG3.out⟩
    · have hl1 := HC.out.l1
      have hl2 := HC.out.l2
      have hol : os.length = l.length := by omega
      have HGl := hid hgr
      have HGA := hid hGA
      have HVl := hid hvl
      have HP := hid (Fl.graph_parts hgr)
      have hne : 1 ≤ n := by
        have := List.length_pos_iff.2 HP.out.1
        omega
      have HDC := hid (fun w' (hg : Grew y2.w w') => depths_c A1 c1 A2 c2 n gG (w1.alloc (.cells #[.slice A1 n c1, .slice A2 n c2] 218)).heap.size l os vs G w' (HC.out.grew (((Grew.refl w1).alloc _).trans (y2.grew.trans hg))) (hGA.grew hg) hvl (by rw [HP.out.2.1]; omega) (fun s hs i hi => by have := Fl.graph_lt' hol hgr s hs i hi; omega) hne)
      have HG3 := hid (HG2.out.trans y2.grew)
      have HNL := hid (show n = l.length ∧ os.length = l.length ∧ n ≤ 512 from ⟨hl1, hol, HC.out.few⟩)
      clear hgr hvl hGA hl1 hl2 hol HP
      go_wp2_with fail
      refine (HDC.out _ (Grew.refl _)).mono ?_
      clear HDC
      rintro e w3 (⟨rfl, hdr, hg3⟩ | ⟨gD, D, rfl, hdr, hRD, hg3⟩)
      · have HX : Hid (Fl.Bad bs 8) := hid ⟨l, os, .inr ⟨HR.out, rfl, .inr ⟨G, HGl.out, hdr⟩⟩⟩
        have HG4 := hid (HG3.out.trans hg3)
        clear hdr hg3
        go_wp2_with fail
        go_ret3
        exact .inl ⟨8, rfl, HX.out, HG4.out⟩
      · have HX : Hid (Fl.Well bs l os G D) := hid ⟨HR.out, HGl.out, hdr⟩
        have HRD := hid hRD
        have HG4 := hid hg3
        clear hdr hRD hg3
        go_wp2_with fail
        go_ret3
        exact .inr ⟨gG, gD, n, vs, l, os, G, D, rfl, HX.out, HNL.out.1, HNL.out.2.1, HNL.out.2.2, HVl.out, (HGA.out.grew HG4.out).low HG2.out.below.size, Row.low HRD.out HG3.out.below.size, HG3.out.trans HG4.out⟩
end Go.Proofs.YtjladeiecokpfaaGreatDoor
namespace Go.Proofs.YtjladeiecokpfaaGreatDoor
open Go.RowKit

theorem Fl.Bad.uniq {b : List Nat} {k k' : Nat} (h : Fl.Bad b k) (h' : Fl.Bad b k') : k = k' := by
  obtain ⟨l, os, h⟩ := h
  obtain ⟨l', os', h'⟩ := h'
  rcases h with ⟨h1, h2⟩ | ⟨h1, rfl, _⟩ <;> rcases h' with ⟨k1, k2⟩ | ⟨k1, rfl, _⟩
  · rw [h1] at k1
    simp only [Prod.mk.injEq] at k1
    exact k1.2.2
  · rw [h1] at k1
    simp only [Prod.mk.injEq] at k1
    exact absurd k1.2.2 h2
  · rw [h1] at k1
    simp only [Prod.mk.injEq] at k1
    exact absurd k1.2.2.symm k2
  · rfl
theorem well_or_bad (b : List Nat) : (∃ l os G D, Fl.Well b l os G D) ∨ ∃ k, Fl.Bad b k := by
  obtain ⟨l, os, k, hr⟩ : ∃ l os k, Op7.decR b = (l, os, k) := ⟨_, _, _, rfl⟩
  by_cases hk : k = 0
  · subst hk
    cases hg : Fl.graph l os with
    | none => exact .inr ⟨8, l, os, .inr ⟨hr, rfl, .inl hg⟩⟩
    | some G =>
      cases hd : Fl.depths l G with
      | none => exact .inr ⟨8, l, os, .inr ⟨hr, rfl, .inr ⟨G, hg, hd⟩⟩⟩
      | some D => exact .inl ⟨l, os, G, D, hr, hg, hd⟩
  · exact .inr ⟨k, l, os, .inl ⟨hr, hk⟩⟩
section
variable {A : Option Addr} {c : Nat} {bs : List Nat} {w : World} {l : List Op7.Ins} {os : List Nat} {G : List (List Nat)} {D : List Int} {k : Nat}
/-- Bytes as an argument. -/
structure Arg (w : World) (A : Option Addr) (c : Nat) (bs : List Nat) : Prop where
  at_ : BytesAt w w.heap.size A bs
  tab : TabAt w
  cap : bs.length ≤ c
  max : c ≤ 9223372036854775807
theorem Arg.grew {w' : World} (h : Arg w A c bs) (hg : Grew w w') : Arg w' A c bs := ⟨h.at_.grew hg, h.tab.grew hg, h.cap, h.max⟩
def OkAn (w : World) (G : List (List Nat)) (D : List Int) (l : List Op7.Ins) (e : Ending) (w' : World) : Prop :=
  ∃ gG gD n vs, e = .returned (.tuple #[.slice (some ⟨gG, 0, none⟩) n n, .slice (some ⟨gD, 0, none⟩) n n, .nilIface]) ∧ n = l.length ∧ n ≤ 512 ∧ vs.length = n ∧ GraphAt w' w.heap.size gG n vs G ∧ RowD w' w.heap.size gD n D ∧ Grew w w'
theorem an_ok (h : Arg w A c bs) (hW : Fl.Well bs l os G D) : Calls Tryz.prog 130 #[.slice A bs.length c] w (OkAn w G D l) :=
  (analyze_c A c bs w h.at_ h.tab h.cap h.max).mono fun e w' hp => by
    rcases hp with ⟨k, _, hb, _⟩ | ⟨gG, gD, n, vs, l', os', G', D', h1, hW', h2, _, h3, h4, h5, h6, h7⟩
    · exact (hb.not_well hW).elim
    · obtain ⟨rfl, rfl, rfl, rfl⟩ := hW.uniq hW'
      exact ⟨gG, gD, n, vs, h1, h2, h3, h4, h5, h6, h7⟩
theorem an_bad (h : Arg w A c bs) (hb : Fl.Bad bs k) : Calls Tryz.prog 130 #[.slice A bs.length c] w fun e w' => e = .returned (.tuple #[.slice none 0 0, .slice none 0 0, .iface 75 (.int .i64 ((k : Nat) : Int))]) ∧ Grew w w' :=
  (analyze_c A c bs w h.at_ h.tab h.cap h.max).mono fun e w' hp => by
    rcases hp with ⟨k', h1, hb', h2⟩ | ⟨gG, gD, n, vs, l', os', G', D', h1, hW', _⟩
    · obtain rfl := hb.uniq hb'
      exact ⟨h1, h2⟩
    · exact (hb.not_well hW').elim
theorem Fl.Well.few {b : List Nat} (hb : ∀ x ∈ b, x < 256) (h : Fl.Well b l os G D) : 1 ≤ l.length ∧ l.length ≤ 512 := by
  obtain ⟨_, _, h3, h4⟩ := decR_ok hb h.dec
  have := Op7.encs_long l
  have := List.length_pos_iff.2 h.parts.1
  rw [h3] at h4
  omega
set_option maxRecDepth 100000 in
set_option maxHeartbeats 1000000 in
theorem check_ok (h : Arg w A c bs) (hW : Fl.Well bs l os G D) : Calls Tryz.prog 105 #[.slice A bs.length c] w fun e w' => e = .returned .nilIface ∧ Grew w w' := by
  have HC := hid (an_ok h hW)
  clear h hW
  generalize bs.length = n0 at *
  go_enter Tryz.func105, Tryz.ntmps105
  go_wp2_with fail
  refine HC.out.mono ?_
  rintro e w1 ⟨gG, gD, n, vs, rfl, _, _, _, _, _, hg⟩
  go_wp2_with fail
  go_ret
  exact ⟨rfl, hg⟩
set_option maxRecDepth 100000 in
set_option maxHeartbeats 1000000 in
theorem check_bad (h : Arg w A c bs) (hb : Fl.Bad bs k) : Calls Tryz.prog 105 #[.slice A bs.length c] w fun e w' => e = .returned (.iface 75 (.int .i64 ((k : Nat) : Int))) ∧ Grew w w' := by
  have HC := hid (an_bad h hb)
  clear h hb
  generalize bs.length = n0 at *
  go_enter Tryz.func105, Tryz.ntmps105
  go_wp2_with fail
  refine HC.out.mono ?_
  rintro e w1 ⟨rfl, hg⟩
  go_wp2_with fail
  go_ret
  exact ⟨rfl, hg⟩
end
end Go.Proofs.YtjladeiecokpfaaGreatDoor

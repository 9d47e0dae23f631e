/- Parts of elder texts that this layer needs, joined: XFl5 XFl6. -/
import Derived.Test.YtjdgcgpidhljpaaGreatDoorYFlA
import Derived.Laws.CopyOwn
import Derived.Test.YtjdgcgpidhljpaaGreatDoorYBase
namespace Go.Proofs.YtjdgcgpidhljpaaGreatDoor
open Go.RowKit

/-- 'copy(dst, src)', elements of s cells, into a block that is known whole. -/
theorem run_copyS {P : Program} (s : Nat) (w : World) (dT sT ty elem : TypeId) (g o dLen dCap : Nat) (a : Addr) (sLen sCap : Nat) (vs : List Value) (t : TypeId) (cs : List Value)
    (hu : P.underlying dT = some (.slice elem)) (hs : (P.info? elem).map (·.size) = some s)
    (hg : Blk w g t vs.toArray) (hn : cs.length = Nat.min sLen dLen * s)
    (hsrc : ∀ j v, cs[j]? = some v → w.cell? (a.add j) = some v) (hfit : o + cs.length ≤ vs.length) (h1 : ∀ v ∈ cs, v.oneCell' = true) :
    ∃ w', (Builtin.copy_ #[dT, sT] ty #[.slice (some ⟨g, o, none⟩) dLen dCap, .slice (some a) sLen sCap]).run P w = .ok (goInt (Nat.min sLen dLen)) w' ∧ Blk w' g t (splice vs o cs).toArray ∧ Kept (fun k => k = g) w w' := by
  have hl := run_loadCells_list (P := P) w a cs hsrc
  have hst := run_storeCells_at P g o t cs 0 vs.toArray w hg (by simpa using hfit) h1
  refine ⟨w.setRow g ((vs.take o ++ cs ++ vs.drop (o + cs.length))).toArray, ?_, ?_, rfl, rfl, rfl, by simp [World.setRow], fun k hk hF => setRow_other w g k _ (fun h => hF h)⟩
  · cases hq : P.info? elem with
    | none => simp [hq] at hs
    | some i =>
      have hi : i.size = s := by simpa [hq] using hs
      simp only [Nat.add_zero] at hst
      simp [Builtin.copy_, run_underlying hu, Builtin.lenOf, Builtin.firstCells, sizeOf, typeInfo, hq, hi, ← hn, hl, hst]
  · have := setRow_heap w g vs.toArray (vs.take o ++ cs ++ vs.drop (o + cs.length)).toArray t _ hg
    unfold Blk
    rw [this]
    simp [splice]
/-- 'make([]T, n)', whatever T. -/
theorem make_blk {P : Program} {t e : TypeId} {z : Value} {s b : Nat} (ht : P.underlying t = some (.slice e)) (he : (P.info? e).map (fun i => (i.zero, i.size, i.bytes)) = some (some z, s, b)) (hb : b ≤ 100)
    (n : Nat) (hn : n ≤ 1048576) (W : World) : ∃ (vs : List Value) (w' : World), vs.length = n * s ∧ (Instr.makeSlice t (.int .i64 n) (.int .i64 n)).run P W = .ok (.slice (some ⟨W.heap.size, 0, none⟩) n n) w' ∧ Blk w' W.heap.size e vs.toArray ∧ Grew W w' ∧ w'.heap.size = W.heap.size + 1 := by
  obtain ⟨i, hi, hz0, hz1, hz2⟩ := info_parts he
  have hm : n * b ≤ n * 100 := Nat.mul_le_mul_left n hb
  have hm2 : (b : Int) * (n : Int) ≤ 100 * n := by rw [← Int.natCast_mul, Nat.mul_comm]; omega
  have hr := run_make (P := P) W t e i z ht hi hz0 .i64 .i64 n n (by omega) (by omega) (by rw [hz2]; omega) (by omega)
  simp only [Int.toNat_natCast] at hr
  refine ⟨(madeCells z.cells (n * i.size)).toList, _, by simp [size_madeCells, hz1], hr, ?_, (Grew.refl W).alloc _, by simp⟩
  have := Blk.new W e (madeCells z.cells (n * i.size))
  simpa using this
/-- As far as copies of xs have come. -/
def Filled (xs vs : List Value) (n f : Nat) : Prop := vs.length = n * xs.length ∧ ∀ j, j < f * xs.length → vs[j]? = xs[j % xs.length]?
theorem splice_get {α : Type} (vs cs : List α) (o j : Nat) (h : o + cs.length ≤ vs.length) : (splice vs o cs)[j]? = if j < o then vs[j]? else if j < o + cs.length then cs[j - o]? else vs[j]? := by
  unfold splice
  have hl : (vs.take o).length = o := by rw [List.length_take]; omega
  by_cases h1 : j < o
  · rw [if_pos h1, List.getElem?_append_left (by omega), List.getElem?_take_of_lt h1]
  · rw [if_neg h1, List.getElem?_append_right (by omega), hl]
    by_cases h2 : j < o + cs.length
    · rw [if_pos h2, List.getElem?_append_left (by omega)]
    · rw [if_neg h2, List.getElem?_append_right (by omega), List.getElem?_drop]
      congr 1
      omega
theorem Filled.first {xs vs : List Value} {n : Nat} (h : vs.length = n * xs.length) (hn : 1 ≤ n) : Filled xs (splice vs 0 xs) n 1 := by
  have h1 : 1 * xs.length ≤ n * xs.length := Nat.mul_le_mul_right _ hn
  have hf : 0 + xs.length ≤ vs.length := by omega
  refine ⟨by rw [length_splice _ _ _ hf, h], fun j hj => ?_⟩
  rw [splice_get _ _ _ _ hf, if_neg (by omega), if_pos (by omega), Nat.sub_zero, Nat.mod_eq_of_lt (by omega)]
theorem Filled.next {xs vs : List Value} {n f : Nat} (h : Filled xs vs n f) (m : Nat) (hm : m ≤ f) (hn : f + m ≤ n) : Filled xs (splice vs (f * xs.length) (vs.take (m * xs.length))) n (f + m) := by
  have h0 : (f + m) * xs.length ≤ n * xs.length := Nat.mul_le_mul_right _ hn
  have h1 : (f + m) * xs.length = f * xs.length + m * xs.length := Nat.add_mul _ _ _
  have h2 : m * xs.length ≤ f * xs.length := Nat.mul_le_mul_right _ hm
  have hl : (vs.take (m * xs.length)).length = m * xs.length := by rw [List.length_take, h.1]; omega
  have hf : f * xs.length + (vs.take (m * xs.length)).length ≤ vs.length := by rw [hl, h.1]; omega
  refine ⟨by rw [length_splice _ _ _ hf, h.1], fun j hj => ?_⟩
  rw [splice_get _ _ _ _ hf, hl]
  by_cases h3 : j < f * xs.length
  · rw [if_pos h3]; exact h.2 j h3
  · rw [if_neg h3, if_pos (by omega), List.getElem?_take_of_lt (by omega), h.2 _ (by omega)]
    congr 1
    conv => rhs; rw [show j = (j - f * xs.length) + f * xs.length by omega, Nat.add_mul_mod_self_right]
theorem flatten_get (xs : List Value) (hx : 0 < xs.length) : ∀ (n j : Nat), j < n * xs.length → ((List.replicate n xs).flatten)[j]? = xs[j % xs.length]?
  | 0, j, h => by omega
  | n + 1, j, h => by
    rw [List.replicate_succ, List.flatten_cons]
    rcases Nat.lt_or_ge j xs.length with h1 | h1
    · rw [List.getElem?_append_left h1, Nat.mod_eq_of_lt h1]
    · rw [List.getElem?_append_right h1, flatten_get xs hx n (j - xs.length) (by rw [Nat.add_mul] at h; omega)]
      congr 1
      rw [Nat.mod_eq_sub_mod h1]
theorem Filled.all {xs vs : List Value} {n : Nat} (hx : 0 < xs.length) (h : Filled xs vs n n) : vs = (List.replicate n xs).flatten := by
  have hl : ((List.replicate n xs).flatten).length = n * xs.length := by simp
  apply List.ext_getElem?
  intro j
  by_cases hj : j < n * xs.length
  · rw [h.2 j hj, flatten_get xs hx n j hj]
  · rw [List.getElem?_eq_none (by rw [h.1]; omega), List.getElem?_eq_none (by omega)]
end Go.Proofs.YtjdgcgpidhljpaaGreatDoor
namespace Go.Proofs.YtjdgcgpidhljpaaGreatDoor
open Go.RowKit

def RepPost (w : World) (e : TypeId) (s n : Nat) (xs : List Value) (en : Ending) (w' : World) : Prop :=
  ∃ g vs, en = .returned (.slice (some ⟨g, 0, none⟩) n n) ∧ vs = (List.replicate n xs).flatten ∧ Row w' w.heap.size e s (some ⟨g, 0, none⟩) n n vs ∧ Grew w w'
/-- What each operation of the round gives. -/
def RepF (g s n f m : Nat) (i : Nat) (v : Value) (_ : World) : Prop := match i with
  | 0 => v = .int .i64 ((f : Nat) : Int)
  | 1 => v = .slice (some ⟨g, 0, none⟩) n n
  | 2 => v = .int .i64 ((f : Nat) : Int)
  | 3 => v = .slice (some ⟨g, f * s, none⟩) (n - f) (n - f)
  | 4 => v = .slice (some ⟨g, 0, none⟩) n n
  | 5 => v = .int .i64 ((f : Nat) : Int)
  | 6 => v = .slice (some ⟨g, 0, none⟩) f n
  | _ => v = .int .i64 ((m : Nat) : Int)
/-- The row before and behind the copy. -/
def RepJ (g : Nat) (e : TypeId) (us us' : List Value) (b : Bool) (w : World) : Prop := Blk w g e (if b then us' else us).toArray
set_option maxRecDepth 100000 in
set_option maxHeartbeats 2000000 in
theorem repInt (bx n : Nat) (xs : List Value) (w : World) (hx : ∀ j v, xs[j]? = some v → w.cell? ⟨bx, j, none⟩ = some v) (hb : bx < w.heap.size) (hl : xs.length = 1) (h1 : ∀ v ∈ xs, v.oneCell' = true) (hn : 1 ≤ n) (hn2 : n ≤ 1024) :
    Calls Tryz.prog 148 #[.slice (some ⟨bx, 0, none⟩) 1 1, .int .i64 (n : Nat)] w (RepPost w 3 1 n xs) := by
  have H1 := hid h1
  have HL := hid hl
  have HM := hid (fun w' => Tryz.bits_Mul 1 n (by decide) (by omega) w')
  have e1 : 1 * n / 18446744073709551616 = 0 := Nat.div_eq_of_lt (by omega)
  have e2 : 1 * n % 18446744073709551616 = n := by rw [Nat.one_mul]; exact Nat.mod_eq_of_lt (by omega)
  rw [e1, e2] at HM
  clear e1 e2
  obtain ⟨vs, W1, hvl, hmk, hB, hG, hS⟩ := make_blk (z := .int .i64 0) (s := 1) (b := 8) Tryz.underlying78 (by kernel_rfl) (by decide) n (by omega) w
  have hFit : 0 + xs.length ≤ vs.length := by rw [hl, hvl]; omega
  obtain ⟨W2, hcp, hB2, hK2⟩ := run_copyS (P := Tryz.prog) 1 W1 78 78 3 3 w.heap.size 0 n n ⟨bx, 0, none⟩ 1 1 vs 3 xs Tryz.underlying78 (by kernel_rfl) hB (by rw [hl, show Nat.min 1 n = 1 from Nat.min_eq_left hn]) (fun j v hv => by
    rw [hG.below.cell (by rw [block_add]; exact hb), show (⟨bx, 0, none⟩ : Addr).add j = ⟨bx, j, none⟩ by simp [Addr.add]; omega]
    exact hx j v hv) hFit h1
  rw [show Nat.min 1 n = 1 from Nat.min_eq_left hn, show goInt ((1 : Nat) : Int) = .int .i64 1 from rfl] at hcp
  have HB := hid hB2
  have HF := hid (Filled.first (xs := xs) (vs := vs) (n := n) (by rw [hl]; exact hvl) hn)
  have HG := hid (hK2.grew hG (fun k hk => by subst hk; exact Nat.le_refl _))
  have HV := hid hvl
  clear hB hB2 hG hS hvl hx h1 hl hK2 hFit
  obtain ⟨g, hg⟩ : ∃ g, g = w.heap.size := ⟨_, rfl⟩
  have HGG := hid hg
  rw [← hg] at hmk HB hcp
  clear hg
  generalize splice vs 0 xs = us at *
  have f0 : ¬ ((n : Int) < 0) := by omega
  have f1 : ¬ ((9223372036854775807 : Int) < n) := by omega
  go_enter Tryz.func148, Tryz.ntmps148
  go_wp2_with fail
  refine (HM.out _).mono ?_
  rintro e w2 ⟨rfl, rfl⟩
  go_wp2_with fail
  clear hmk hcp
  go_loopw [8] (fun s8 wr => ∃ (f : Nat) (us : List Value), s8 = .int .i64 ((f : Nat) : Int) ∧ 1 ≤ f ∧ f ≤ n ∧ Hid (Blk wr g 3 us.toArray ∧ Filled xs us n f) ∧ Hid (Grew w2 wr)) (fun s8 _ => n - (intOf s8).toNat)
  case atStart => exact ⟨1, us, rfl, Nat.le_refl _, hn, hid ⟨HB.out, HF.out⟩, HG⟩
  case round =>
    obtain ⟨f, us, rfl, hf1, hfn, HB, HGr⟩ := hrel
    by_cases hlt : f < n
    · have g1 : (f : Int) < n := by omega
      have g2 : (f : Int) ≤ n := by omega
      go_wp2_with fail
      obtain ⟨m, hm⟩ : ∃ m, m = Nat.min f (n - f) := ⟨_, rfl⟩
      have hmf : m ≤ f := by rw [hm]; exact Nat.min_le_left _ _
      have hmn : f + m ≤ n := by have : m ≤ n - f := by rw [hm]; exact Nat.min_le_right _ _
                                 omega
      have hm1 : 1 ≤ m := by rw [hm]; exact Nat.le_min.2 ⟨hf1, by omega⟩
      have HN := hid (HB.out.2.next m hmf hmn)
      have HCP := hid (fun (w' : World) (hb : Blk w' g 3 us.toArray) => run_copyS (P := Tryz.prog) 1 w' 78 78 3 3 g (f * 1) (n - f) (n - f) ⟨g, 0, none⟩ f n us 3 (us.take (m * 1)) Tryz.underlying78 (by kernel_rfl) hb (by
          have h0 : m * 1 ≤ n * 1 := Nat.mul_le_mul_right _ (by omega)
          have h2 := HB.out.2.1
          rw [HL.out] at h2
          rw [List.length_take, ← hm, h2]; omega) (fun j v hv => by
        have hj : j < m * 1 := by have := (List.getElem?_eq_some_iff.1 hv).1; rw [List.length_take] at this; omega
        rw [List.getElem?_take_of_lt hj] at hv
        rw [show (⟨g, 0, none⟩ : Addr).add j = ⟨g, j, none⟩ by simp [Addr.add]; omega, hb.cell j]
        simpa using hv) (by
          have h0 : (f + m) * 1 ≤ n * 1 := Nat.mul_le_mul_right _ hmn
          have h2 := HB.out.2.1
          rw [HL.out] at h2
          rw [List.length_take, h2]; omega) (fun v hv => by
        obtain ⟨j, hj, rfl⟩ := List.mem_iff_getElem.1 hv
        have hj2 : j < f * 1 := by
          rw [List.length_take] at hj
          have : m * 1 ≤ f * 1 := Nat.mul_le_mul_right _ hmf
          omega
        have h3 := HB.out.2.2 j (by rw [HL.out]; exact hj2)
        rw [List.getElem_take]
        rw [List.getElem?_eq_getElem (by rw [List.length_take] at hj; omega)] at h3
        exact H1.out _ (List.mem_of_getElem? h3.symm)))
      rw [← hm] at HCP
      have hne : ¬ (n = f) := by omega
      obtain ⟨vs2, hvs2⟩ : ∃ vs2, vs2 = splice us (f * 1) (us.take (m * 1)) := ⟨_, rfl⟩
      rw [← hvs2] at HCP
      have HN2 : Hid (Filled xs vs2 n (f + m)) := hid (by rw [hvs2]; have := HN.out; rwa [HL.out] at this)
      have HH1 := hid H1.out
      clear hvs2 HN hm
      refine wp_region_facts3 (w0 := wr) _ 3 8 [38, 39, 40, 41, 42, 43, 44, 45] [] (RepF g 1 n f m) (Kept (fun k => k = g)) (RepJ g 3 us vs2) 7 (May.kept _) (by kernel_rfl) (by kernel_rfl) (Kept.refl _ _).drew HB.out.1.drew (fun _ _ _ _ h _ => h) ?_ ?_
      · repeat' (first | exact trivial | apply And.intro)
        all_goals
          intro a w' b hgw hJ hbm hs hA
          have e7 := hs.eval 7 (by decide) (v := .slice (some ⟨g, 0, none⟩) n n) rfl
          have e8 := hs.eval 8 (by decide) (v := .int .i64 ((f : Nat) : Int)) rfl
          have HJ := hid hJ
          have HBM := hid hbm
          clear hs hgw hJ hbm
          simp only [Ahead, Region.binds, slotOf, RepF, List.getD_cons_succ, List.getD_cons_zero, forall_const, and_true] at hA
          simp only [wantedD, if_true]
          unfold Oper.wp
          generalize hfe : a.eval = fe at *
          clear hfe
          first
            | (have hbf : b = false := HBM.out (by decide)
               subst hbf
               obtain ⟨W3, hrun, hb3, hk3⟩ := HCP.out w' HJ.out
               have HB3 := hid hb3
               clear hb3
               rw [show goInt ((m : Nat) : Int) = .int .i64 ((m : Nat) : Int) from rfl] at hrun
               try simp only [Nat.mul_one] at hrun
               have HQ := hid (Gives3.of (R := Kept (fun k => k = g)) (F := RepF g 1 n f m 7) (J := RepJ g 3 us vs2 true) (al := false) (d := 45) (a := a) rfl hk3 rfl HB3.out)
               clear HB3 hk3
               go_simp
               exact HQ.out)
            | (go_simp; exact Gives3.of rfl (Kept.refl _ _) rfl (by cases b <;> exact HJ.out))
            | (go_simp; exact Gives3.of rfl (Kept.refl _ _) (by simp [RepF]) (by cases b <;> exact HJ.out))
      · intro a w3 hgw hs hf hJ _
        have h0 := hf 0 (by decide)
        have h7 := hf 7 (by decide)
        simp only [slotOf, RepF, List.getD_cons_succ, List.getD_cons_zero] at h0 h7
        obtain ⟨fn, rfl, hft⟩ := hs.put
        rw [hft] at h0 h7
        have HJ : Hid (Blk w3 g 3 vs2.toArray) := hid hJ
        have HG3 := hid (hgw.grew HGr.out (fun k hk => by subst hk; rw [HGG.out]; exact Nat.le_refl _))
        clear hf hft hs hgw hJ
        simp only [List.drop_succ_cons, List.drop_zero, putAll, List.foldl_cons, List.foldl_nil, Act.put, List.setIfInBounds_toArray, List.set_cons_succ, List.set_cons_zero, h0, h7]
        clear h0 h7
        go_wp2_with fail
        go_round
        case rel => exact ⟨f + m, vs2, by go_num, by omega, hmn, hid ⟨HJ.out, HN2.out⟩, HG3⟩
        case measure => simp [intOf]; omega
    · obtain rfl : f = n := by omega
      go_wp2_with fail
      go_ret
      exact ⟨g, us, rfl, HB.out.2.all (by rw [HL.out]; decide), by have := Row.of_blk (B := w2.heap.size) (s := 1) (n := f) HB.out.1 (by rw [HGG.out]; exact Nat.le_refl _) (by have := HB.out.2.1; rw [HL.out] at this; simpa using this) (by omega); simpa using this, HGr.out⟩
end Go.Proofs.YtjdgcgpidhljpaaGreatDoor

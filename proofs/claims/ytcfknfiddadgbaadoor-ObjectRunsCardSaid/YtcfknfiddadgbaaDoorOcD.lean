/- Stage 11: the law's own small functions. -/
import Derived.Test.YtcfknfiddadgbaaDoorOcC
namespace Go.Proofs.YtcfknfiddadgbaaDoor
open Go.RowKit

/-- 'append(out, x)': x of several cells. -/
theorem wpList_pushS {P : Program} {ops : Array Oper} {rest : List Oper} {o : Oper} {a : Act} {Q : Exit → Act → World → Prop} (z : Value) (sz b : Nat) (w : World) (hgd : o.guard = none) (s x : Operand) (t e : TypeId)
    (ho : o.op = .call { callee := .builtin .append, args := #[s, x], argTypes := #[t, t] })
    (ht : P.underlying t = some (.slice e)) (he : (P.info? e).map (fun i => (i.zero, i.size, i.bytes)) = some (some z, sz, b)) (hzs : z.cells.size = sz) (hsz : 0 < sz)
    (B : Nat) (hB : B ≤ w.heap.size) (A : Option Addr) (n c : Nat) (ys : List Value) (hs : a.eval s = .slice A n c) (hown : Row w B e sz A n c ys) (H : Nat) (hH : w.heap.size = H) (hxv : a.eval x = .slice (some ⟨H, 0, none⟩) 1 1) (cs : List Value) (hl : cs.length = sz) (h1 : ∀ u ∈ cs, u.oneCell' = true)
    (hlen : n + 1 ≤ 9223372036854775807) (hby : (n + 1) * b ≤ 140737488355328)
    (h : ∀ A' c' w', Row w' B e sz A' (n + 1) c' (ys ++ cs) → Kept (AtRow A) w w' → RowTo w A A' → wpList P ops Q rest (a.put o.dst (.slice A' (n + 1) c')) w') : wpList P ops Q (o :: rest) a (w.alloc (.cells cs.toArray e)) := by
  subst hH
  refine wpList_catR z sz b (w.alloc (.cells cs.toArray e)) hgd s x t e ho ht he hzs hsz B (by simp only [World.size_alloc]; omega) A n c ys hs (hown.grew ((Grew.refl w).alloc _)) _ 1 1 cs hxv (by omega) h1 (by intro h; cases h) (blk_row (Blk.new w e cs.toArray)) hlen hby (fun A' c' w' r1 r2 r3 => h A' c' w' r1 (r2.of_alloc) (r3.imp id (fun ⟨g, h1, h2⟩ => ⟨g, h1, by simp only [World.size_alloc] at h2; omega⟩)))
/-- What 'giveVals' answers. -/
def GiveV (w : World) (l : List Ob.Val) (e : Ending) (w' : World) : Prop := ∃ A' c', e = .returned (.slice A' l.length c') ∧ Row w' w.heap.size 39 3 A' l.length c' (l.flatMap valF) ∧ Grew w w'
set_option maxRecDepth 100000 in
set_option maxHeartbeats 2000000 in
theorem giveVals_c (A : Option Addr) (cap : Nat) (l : List Ob.Val) (w : World) (h : ValsAt w A l) (hl : l.length ≤ 1000) :
    Calls Tryd.prog 22 #[.slice A l.length cap] w (GiveV w l) := by
  obtain ⟨n, en⟩ : ∃ n, n = l.length := ⟨_, rfl⟩
  have HA := hid h
  unfold GiveV
  rw [← en] at hl ⊢
  have EN := hid en
  clear h en
  go_enter Tryd.func22, Tryd.ntmps22
  go_wp2_with fail
  go_loopw [3, 4] (fun s3 s4 wr => ∃ (i : Nat) (A' : Option Addr) (k' : Nat), s4 = .int .i64 ((i : Nat) : Int) ∧ i ≤ n ∧ s3 = .slice A' i k' ∧ Hid (Row wr w.heap.size 39 3 A' i k' ((l.take i).flatMap valF)) ∧ Hid (Grew w wr)) (fun _ s4 _ => n - (intOf s4).toNat)
  case atStart => exact ⟨0, none, 0, rfl, Nat.zero_le _, rfl, hid (Row.nil _ _ _ _), hid (Grew.refl _)⟩
  case round =>
    obtain ⟨i, A', k', rfl, hi, rfl, HR, HG⟩ := hrel
    by_cases hlt : i < n
    · have f1 : (i : Int) < n := by omega
      obtain ⟨ad, x, rfl, hx, q0, q1, q2, hb, _⟩ := val_at HA.out HG.out (i := i) (by rw [← EN.out]; exact hlt)
      have HTk := hid (show (l.take (i + 1)).flatMap valF = (l.take i).flatMap valF ++ valF x by rw [List.take_add_one, hx, List.flatMap_append]; simp)
      clear hx
      obtain ⟨k, z, t⟩ := x
      simp only at q0 q1 q2
      go_wp2_with (at_builtin; refine wpList_pushS (.agg #[.int .u8 0, .int .i64 0, .int .i64 0]) 3 24 wr rfl _ _ 26 39 rfl Tryd.underlying26 val_info rfl (by decide) w.heap.size HG.out.below.size A' i k' _ rfl HR.out _ rfl rfl [.int .u8 ((k : Nat) : Int), .int .i64 z, .int .i64 t] rfl (by intro u hu; simp only [List.mem_cons, List.not_mem_nil, or_false] at hu; rcases hu with rfl | rfl | rfl <;> rfl) (by omega) (by omega) ?_; rintro A8 k8 w8 hR8 hK8 hT8; have HR8 := hid hR8; have HG8 := hid (hK8.grew HG.out (Row.at_base HR.out)); clear hR8 hK8 hT8)
      go_round
      case rel => exact ⟨i + 1, A8, k8, by go_num, by omega, rfl, by rw [HTk.out]; exact HR8, HG8⟩
      case measure => simp [intOf]; omega
    · have hin : i = n := by omega
      subst hin
      have HLe := hid (show l.take i = l by rw [EN.out, List.take_length])
      go_wp2_with fail
      go_ret
      exact ⟨A', k', rfl, by have := HR.out; rwa [HLe.out] at this, HG.out⟩
/-- Is an object too great to be looked at? -/
def bigO (o : Ob.Obj) : Bool := (decide (60 < o.f.length) && decide (o.f.length ≤ 256)) || (decide (300 < o.f.length) || decide (1100 < o.b.size))
def bigB (l : List Ob.Obj) : Bool := (l.take 60).any bigO || decide (60 < l.length)
theorem fit_of {l : List Ob.Obj} (h : bigB l = false) : l.length ≤ 60 ∧ ObjsFit l := by
  rw [bigB, Bool.or_eq_false_iff, decide_eq_false_iff_not] at h
  have hl : l.length ≤ 60 := by omega
  rw [List.take_of_length_le hl] at h
  have hs : ∀ o ∈ l, o.f.length ≤ 300 ∧ o.b.size ≤ 1100 := fun o ho => by
    have h1 : bigO o = false := by
      cases hb : bigO o
      · rfl
      · exact absurd (List.any_eq_true.2 ⟨o, ho, hb⟩) (by rw [h.1]; decide)
    simp only [bigO, Bool.or_eq_false_iff, decide_eq_false_iff_not] at h1
    omega
  exact ⟨hl, by omega, fun o ho => (hs o ho).1, fun o ho => (hs o ho).2⟩
set_option maxRecDepth 100000 in
set_option maxHeartbeats 4000000 in
theorem bigObjs_c (A : Option Addr) (cap : Nat) (l : List OV) (w : World) (h : ObjsAt w A l) :
    Calls Tryd.prog 12 #[.slice A l.length cap] w fun e w' => e = .returned (.bool (bigB (objs l))) ∧ Grew w w' := by
  obtain ⟨n, en⟩ : ∃ n, n = l.length := ⟨_, rfl⟩
  have HA := hid h
  obtain ⟨R, hR⟩ : ∃ R, R = bigB (objs l) := ⟨_, rfl⟩
  rw [← hR, ← en]
  have ER := hid hR
  have EN := hid en
  clear h en hR
  go_enter Tryd.func12, Tryd.ntmps12
  go_wp2_with fail
  go_loopw [3] (fun s3 wr => ∃ (i : Nat), s3 = .int .i64 ((i : Nat) : Int) ∧ i ≤ n ∧ i ≤ 60 ∧ Hid (((objs l).take i).any bigO = false) ∧ Hid (wr = w)) (fun s3 _ => 60 - (intOf s3).toNat)
  case atStart => exact ⟨0, rfl, Nat.zero_le _, Nat.zero_le _, hid (by simp), hid rfl⟩
  case round =>
    obtain ⟨i, rfl, hi, hi6, HI, HW⟩ := hrel
    by_cases hlt : i < n
    · by_cases h60 : i < 60
      · have f1 : (i : Int) < n := by omega
        have f2 : (i : Int) < 60 := by omega
        obtain ⟨ad, v, rfl, hv, q0, q1, q2, q3, hb, _⟩ := ov_get HA.out (show Grew w wr by rw [HW.out]; exact Grew.refl _) (i := i) (by rw [← EN.out]; exact hlt)
        have hx := objs_at hv
        have HT : Hid (((objs l).take (i + 1)).any bigO = bigO v.o) := hid (by
          rw [List.take_add_one, hx, List.any_append, HI.out]
          simp)
        have HX : Hid (bigO v.o = true → R = true) := hid (fun hf => by
          rw [ER.out, bigB, Bool.or_eq_true]
          refine .inl (List.any_eq_true.2 ⟨v.o, List.mem_of_getElem? (i := i) ?_, hf⟩)
          rw [List.getElem?_take_of_lt h60]
          exact hx)
        have HBig := hid (show bigO v.o = ((decide (60 < v.o.f.length) && decide (v.o.f.length ≤ 256)) || (decide (300 < v.o.f.length) || decide (1100 < v.o.b.size))) from rfl)
        clear hx hv
        generalize bigO v.o = bo at *
        obtain ⟨⟨cls, lev, fl, bt⟩, fA, fc⟩ := v
        simp only at q0 q1 q2 q3 HBig
        generalize fl.length = m at *
        obtain ⟨z, ez⟩ : ∃ z, z = bt.size := ⟨_, rfl⟩
        by_cases c1 : 60 < m
        · have g1 : (60 : Int) < (m : Int) := by omega
          by_cases c2 : m ≤ 256
          · have g2 : (m : Int) ≤ 256 := by omega
            have HR1 := hid (HX.out (by rw [HBig.out, decide_eq_true c1, decide_eq_true c2]; rfl))
            go_wp2_with fail
            go_ret
            exact ⟨by rw [HR1.out]; rfl, by rw [HW.out]; exact Grew.refl _⟩
          · have g2 : ¬ (m : Int) ≤ 256 := by omega
            by_cases c3 : 300 < m
            · have g3 : (300 : Int) < (m : Int) := by omega
              have HR1 := hid (HX.out (by rw [HBig.out, decide_eq_true c3, Bool.true_or, Bool.or_true]))
              go_wp2_with fail
              go_ret
              exact ⟨by rw [HR1.out]; rfl, by rw [HW.out]; exact Grew.refl _⟩
            · have g3 : ¬ (300 : Int) < (m : Int) := by omega
              by_cases c4 : 1100 < bt.size
              · have g4 : (1100 : Int) < ((bt.size : Nat) : Int) := by omega
                have HR1 := hid (HX.out (by rw [HBig.out, decide_eq_true c4, Bool.or_true, Bool.or_true]))
                go_wp2_with fail
                go_ret
                exact ⟨by rw [HR1.out]; rfl, by rw [HW.out]; exact Grew.refl _⟩
              · have g4 : ¬ (1100 : Int) < ((bt.size : Nat) : Int) := by omega
                have HBf := hid (show bo = false by rw [HBig.out, decide_eq_false c2, decide_eq_false c3, decide_eq_false c4, Bool.and_false]; rfl)
                clear c1 c2 c3 c4 ez
                go_wp2_with fail
                go_round
                case rel => exact ⟨i + 1, by go_num, by omega, by omega, by rw [HT.out]; exact HBf, HW⟩
                case measure => simp [intOf]; omega
        · have g1 : ¬ (60 : Int) < (m : Int) := by omega
          have g3 : ¬ (300 : Int) < (m : Int) := by omega
          by_cases c4 : 1100 < bt.size
          · have g4 : (1100 : Int) < ((bt.size : Nat) : Int) := by omega
            have HR1 := hid (HX.out (by rw [HBig.out, decide_eq_true c4, Bool.or_true, Bool.or_true]))
            go_wp2_with fail
            go_ret
            exact ⟨by rw [HR1.out]; rfl, by rw [HW.out]; exact Grew.refl _⟩
          · have g4 : ¬ (1100 : Int) < ((bt.size : Nat) : Int) := by omega
            have HBf := hid (show bo = false by rw [HBig.out, decide_eq_false c1, decide_eq_false (show ¬ 300 < m by omega), decide_eq_false c4]; rfl)
            clear c1 c4 ez
            go_wp2_with fail
            go_round
            case rel => exact ⟨i + 1, by go_num, by omega, by omega, by rw [HT.out]; exact HBf, HW⟩
            case measure => simp [intOf]; omega
      · have h6 : i = 60 := by omega
        subst h6
        have f1 : (60 : Int) < n := by omega
        have HR1 := hid (show R = true by rw [ER.out, bigB, objs_len, ← EN.out, decide_eq_true hlt, Bool.or_true])
        go_wp2_with fail
        go_ret
        exact ⟨by rw [HR1.out]; rfl, by rw [HW.out]; exact Grew.refl _⟩
    · have hin : i = n := by omega
      subst hin
      have f1 : ¬ (60 : Int) < i := by omega
      have HR1 := hid (show R = false by
        have h1 := HI.out
        rw [List.take_of_length_le (by rw [objs_len, ← EN.out]; exact Nat.le_refl _)] at h1
        rw [ER.out, bigB, objs_len, ← EN.out, List.take_of_length_le (by rw [objs_len, ← EN.out]; exact hi6), h1, decide_eq_false (by omega)]
        rfl)
      go_wp2_with fail
      go_ret
      exact ⟨by rw [HR1.out]; rfl, by rw [HW.out]; exact Grew.refl _⟩
end Go.Proofs.YtcfknfiddadgbaaDoor

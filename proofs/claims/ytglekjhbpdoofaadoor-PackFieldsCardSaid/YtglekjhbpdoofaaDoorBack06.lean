/- PackBack: for every slice of fields and every number of 16 bits the law returns true, and nothing that was there is changed. Conditions: none of ours. -/
import Derived.Test.YtglekjhbpdoofaaDoorPk12
import Derived.Test.YtglekjhbpdoofaaDoorFacts3
namespace Go.Proofs.YtglekjhbpdoofaaDoor
open Go.RowKit

/-- The cells of one field of a row of fields, in a later world. -/
theorem fds_cells {w w' : World} {A : Option Addr} {vs : List FdV} (h : FdsAt w w.heap.size A vs) (hg : Grew w w') {i : Nat} {v : FdV} (hv : vs[i]? = some v) :
    ∃ ad, A = some ad ∧ w'.cell? (ad.add (i * 7)) = some (.int .u8 ((v.f.kind : Nat) : Int)) ∧ w'.cell? ⟨ad.block, (ad.add (i * 7)).off + 1, none⟩ = some (.int .i64 v.f.n) ∧ w'.cell? ⟨ad.block, (ad.add (i * 7)).off + 2, none⟩ = some (.slice v.A v.f.l.length v.c) ∧ w'.cell? ⟨ad.block, (ad.add (i * 7)).off + 3, none⟩ = some (.string v.f.s) ∧ w'.cell? ⟨ad.block, (ad.add (i * 7)).off + 4, none⟩ = some (.int .i64 v.f.many) ∧ w'.cell? ⟨ad.block, (ad.add (i * 7)).off + 5, none⟩ = some (.int .i64 v.f.lo) ∧ w'.cell? ⟨ad.block, (ad.add (i * 7)).off + 6, none⟩ = some (.int .i64 v.f.hi) := by
  have hi : i < vs.length := (List.getElem?_eq_some_iff.1 hv).1
  obtain ⟨ad, e, hb, hc⟩ := h.2 (by omega)
  have h1 := hc i v hv
  refine ⟨ad, e, ?_, ?_, ?_, ?_, ?_, ?_, ?_⟩
  · rw [hg.below.cell (by rw [block_add]; exact hb)]
    have := h1 0 _ rfl
    rwa [Nat.add_zero] at this
  all_goals rw [hg.below.cell (by exact hb)]
  · exact cell_at h1 1 _ rfl (by decide)
  · exact cell_at h1 2 _ rfl (by decide)
  · exact cell_at h1 3 _ rfl (by decide)
  · exact cell_at h1 4 _ rfl (by decide)
  · exact cell_at h1 5 _ rfl (by decide)
  · exact cell_at h1 6 _ rfl (by decide)
/-- The fields of what lies in memory. -/
def fds (vs : List FdV) : List Pk.Fd := vs.map (·.f)
theorem fds_take {vs : List FdV} {i : Nat} {v : FdV} (hv : vs[i]? = some v) : fds (vs.take (i + 1)) = fds (vs.take i) ++ [v.f] := by
  unfold fds
  rw [List.take_add_one, List.map_append, hv]
  rfl
theorem small_of {vs : List FdV} (h : big6 vs = false) : vs.length ≤ 20 ∧ ∀ v ∈ vs, v.f.l.length ≤ 60 ∧ v.f.s.size ≤ 300 := by
  unfold big6 at h
  rw [Bool.or_eq_false_iff] at h
  have h1 : vs.length ≤ 20 := by simpa using h.2
  refine ⟨h1, fun v hv => ?_⟩
  rw [List.take_of_length_le h1] at h
  have := List.any_eq_false.1 h.1 v hv
  simp only [bigF, Bool.or_eq_true, decide_eq_true_eq] at this
  omega
theorem puts_len : ∀ (l : List Pk.Fd), (∀ f ∈ l, f.l.length ≤ 60 ∧ f.s.size ≤ 300) → (Pk.puts l).length ≤ 910 * l.length
  | [], _ => by simp [Pk.puts]
  | f :: l, h => by
    have h1 := puts_len l (fun x hx => h x (by simp [hx]))
    have h2 := (Pk.put_len f).2
    have h3 := h f (by simp)
    rw [Pk.puts_cons, List.length_append, List.length_cons]
    omega

theorem int_rest (st : Pk.St) (a b : Int) : (Pk.rest (Pk.int st a b).2).length ≤ (Pk.rest st).length := by
  unfold Pk.int
  split
  · rename_i n r hb
    obtain ⟨r0, h1, h2⟩ := Option.bind_eq_some_iff.1 hb
    subst h1
    exact Pk.num_len h2
  · simp [Pk.rest]
theorem take_rest (st : Pk.St) (f : Pk.Fd) : (Pk.rest (Pk.take st f).2).length ≤ (Pk.rest st).length := by
  unfold Pk.take
  split
  · exact int_rest _ _ _
  · split
    · show (Pk.rest (Pk.ints st f.many f.lo f.hi).2).length ≤ _
      unfold Pk.ints
      split
      · rename_i n r hc
        have h1 : r.length ≤ (Pk.rest st).length := count_len (by rw [hc])
        split
        · rename_i l r' hm
          exact Nat.le_trans (Pk.many_len _ hm).2 h1
        · simp [Pk.rest]
      · simp [Pk.rest]
    · show (Pk.rest (Pk.text st f.many).2).length ≤ _
      unfold Pk.text
      split
      · rename_i n r hc
        have h1 : r.length ≤ (Pk.rest st).length := count_len (by rw [hc])
        simp only [Pk.rest, Option.getD_some, List.length_drop] at *
        omega
      · simp [Pk.rest]
theorem takes_rest : ∀ (l : List Pk.Fd) (st : Pk.St), (Pk.rest (Pk.takes st l)).length ≤ (Pk.rest st).length
  | [], _ => Nat.le_refl _
  | f :: l, st => Nat.le_trans (takes_rest l _) (take_rest st f)
/-- A field read, its cells told. -/
theorem fread_cells {lo g : Nat} {st : Pk.St} (f : Pk.Fd) (A : Option Addr) (c : Nat) {w : World} (h : RdAt w lo g st) (hlo : lo ≤ g) (hk : f.kind < 256) (hm : (Pk.rest st).length ≤ 1000000000000) :
    Calls Tryd.prog 20 #[.pointer (some ⟨g, 0, none⟩), .agg #[.int .u8 ((f.kind : Nat) : Int), .int .i64 f.n, .slice A f.l.length c, .string f.s, .int .i64 f.many, .int .i64 f.lo, .int .i64 f.hi]] w fun e w' => ∃ A' c', e = .returned (.agg #[.int .u8 (((Pk.take st f).1.kind : Nat) : Int), .int .i64 (Pk.take st f).1.n, .slice A' (Pk.take st f).1.l.length c', .string (Pk.take st f).1.s, .int .i64 (Pk.take st f).1.many, .int .i64 (Pk.take st f).1.lo, .int .i64 (Pk.take st f).1.hi]) ∧ FdOk w' w'.heap.size ⟨(Pk.take st f).1, A', c'⟩ ∧ (∀ ad, A' = some ad → w.heap.size ≤ ad.block) ∧ RdAt w' lo g (Pk.take st f).2 ∧ Kept (· = g) w w' :=
  (fread_c lo g st ⟨f, A, c⟩ w h hlo hk hm).mono fun _ _ ⟨A', c', h1, h2⟩ => ⟨A', c', h1, h2⟩

/-- What each operation of 'r, s := ..' gives. -/
def Bk9F (W : World) (p M k cut : Nat) (A2 : Option Addr) (c2 : Nat) (P : List Nat) (i : Nat) (v : Value) (w : World) : Prop := match i with
  | 1 => ∃ lo g, v = .pointer (some ⟨g, 0, none⟩) ∧ RdAt w lo g (some P) ∧ W.heap.size ≤ lo ∧ lo ≤ g
  | 3 => v = .int .u16 ((cut : Nat) : Int)
  | 4 => v = .int .i64 ((cut : Nat) : Int)
  | 6 => v = .int .i64 ((p : Nat) : Int)
  | 7 => v = .int .i64 ((M : Nat) : Int)
  | 8 => v = .int .i64 ((k : Nat) : Int)
  | 9 => v = .slice A2 k c2
  | 10 => ∃ lo g, v = .pointer (some ⟨g, 0, none⟩) ∧ RdAt w lo g (some (P.take k)) ∧ W.heap.size ≤ lo ∧ lo ≤ g
  | _ => v = .slice A2 p c2
theorem Bk9F.mono {W : World} {p M k cut : Nat} {A2 : Option Addr} {c2 : Nat} {P : List Nat} (i : Nat) (v : Value) (w w' : World) (h : Bk9F W p M k cut A2 c2 P i v w) (hg : Grew w w') : Bk9F W p M k cut A2 c2 P i v w' := by
  unfold Bk9F at *
  split at h
  all_goals
    first
      | exact h
      | (obtain ⟨lo, g, h1, h2, h3, h4⟩ := h; exact ⟨lo, g, h1, h2.grew hg h4, h3, h4⟩)
/-- Another Reader is read from. -/
theorem RdAt.apart {w w' : World} {lo g lo' g' : Nat} {st st' : Pk.St} (h : RdAt w lo g st) (h' : RdAt w lo' g' st') (hne : g ≠ g') (hk : Kept (· = g') w w') : RdAt w' lo g st := by
  have hlt := h.lt
  obtain ⟨A, c, h1, h2, h3, h4, h5⟩ := h
  obtain ⟨A', c', k1, _⟩ := h'
  refine ⟨A, c, h1.kept hk hne, ⟨h2.1, fun hn => ?_⟩, h3, h4, h5⟩
  obtain ⟨ad, e, hb, hc⟩ := h2.2 hn
  have hd : ad.block ≠ g' := by
    intro hd
    have h0 := hc 0 hn
    rw [add_zero] at h0
    unfold World.cell? at h0
    unfold Blk at k1
    rw [hd, k1] at h0
    simp only at h0
    rcases ho : ad.off with _ | _ | o
    · rw [ho] at h0; simp at h0
    · rw [ho] at h0; simp at h0
    · rw [ho] at h0; simp at h0
  refine ⟨ad, e, hb, fun j hj => ?_⟩
  rw [hk.cell (by rw [block_add]; omega) (by rw [block_add]; exact hd)]
  exact hc j hj

set_option maxRecDepth 100000 in
set_option maxHeartbeats 4000000 in
theorem back6_walk (A : Option Addr) (c : Nat) (vs : List FdV) (cut : Nat) (w : World) (ha : FdsAt w w.heap.size A vs) (hl : vs.length ≤ 9223372036854775807) (hcut : cut < 65536) (hg : HandleAt w) :
    Calls Tryd.prog 4 #[.slice A vs.length c, .int .u16 ((cut : Nat) : Int)] w fun e w' => e = .returned (.bool true) ∧ Grew w w' := by
  have Hg := hid hg
  have HA := hid ha
  have CG := hid (great_c A c vs w ha hl)
  obtain ⟨n, en⟩ : ∃ n, n = vs.length := ⟨_, rfl⟩
  rw [← en] at CG hl ⊢
  have EN := hid en
  clear hg ha en
  cases hbig : big6 vs
  · have hs := small_of hbig
    have hn20 : n ≤ 20 := by rw [EN.out]; exact hs.1
    have HS := hid hs.2
    rw [hbig] at CG
    clear hs hl hbig
    go_enter Tryd.func4, Tryd.ntmps4
    go_wp2_with fail
    refine CG.out.mono ?_
    rintro e w1 ⟨rfl, rfl⟩
    clear CG
    go_wp2_with fail
    have S0 := hid (WS.new (Grew.refl w1))
    have hgg : w1.heap.size = w1.heap.size := rfl
    obtain ⟨g, hgd⟩ : ∃ g, g = w1.heap.size := ⟨_, rfl⟩
    rw [← hgd] at S0 ⊢
    clear hgg hgd
    go_loopw [6] (fun s6 wr => ∃ (i : Nat), s6 = .int .i64 ((i : Nat) : Int) ∧ i ≤ n ∧ Hid (WS w1 wr g (Pk.puts (fds (vs.take i))))) (fun s6 _ => n - (intOf s6).toNat)
    case atStart => exact ⟨0, rfl, Nat.zero_le _, hid (by simpa [fds, Pk.puts] using S0.out)⟩
    case round =>
      obtain ⟨i, rfl, hi, H⟩ := hrel
      by_cases hlt : i < n
      · have f1 : (i : Int) < n := by omega
        obtain ⟨v, hv⟩ : ∃ v, vs[i]? = some v := ⟨_, List.getElem?_eq_getElem (show i < vs.length by rw [← EN.out]; exact hlt)⟩
        have hmem := List.mem_of_getElem? hv
        have hsm := HS.out v hmem
        have hok := HA.out.1 v hmem
        have CW := hid (write_ws H.out v hok (by
          have := puts_len (fds (vs.take i)) (fun f hf => by
            obtain ⟨u, hu, rfl⟩ := List.mem_map.1 hf
            exact HS.out u (List.mem_of_mem_take hu))
          have h2 : (fds (vs.take i)).length ≤ i := by simp [fds]; omega
          omega))
        have HT := hid (show Pk.puts (fds (vs.take (i + 1))) = Pk.puts (fds (vs.take i)) ++ Pk.put v.f by rw [fds_take hv, Pk.puts_snoc])
        obtain ⟨ad, rfl, q0, q1, q2, q3, q4, q5, q6⟩ := fds_cells HA.out H.out.above hv
        obtain ⟨⟨kind, n0, l, s, many, lo, hi0⟩, A1, c1⟩ := v
        simp only at q0 q1 q2 q3 q4 q5 q6
        simp only [FdV.cells] at CW
        clear hv hmem hsm hok
        go_wp2_with fail
        refine CW.out.mono ?_
        rintro e w2 ⟨rfl, hw⟩
        have HE := hid (show WS w1 w2 g (Pk.puts (fds (vs.take (i + 1)))) by rw [HT.out]; exact hw)
        clear hw CW HT q0 q1 q2 q3 q4 q5 q6
        go_wp2_with fail
        go_roundw
        case rel => exact ⟨i + 1, by go_num, by omega, HE⟩
        case measure => simp [intOf]; omega
      · obtain rfl : i = n := by omega
        have HW := hid (show WS w1 wr g (Pk.puts (fds vs)) by
          have := H.out
          rwa [List.take_of_length_le (by rw [← EN.out]; omega)] at this)
        have HPL := hid (show (Pk.puts (fds vs)).length ≤ 910 * i by
          have := puts_len (fds vs) (fun f hf => by
            obtain ⟨u, hu, rfl⟩ := List.mem_map.1 hf
            exact HS.out u hu)
          have h2 : (fds vs).length = vs.length := by simp [fds]
          rw [h2, ← EN.out] at this
          exact this)
        have HPB := hid (Pk.puts_byte (fds vs))
        obtain ⟨P, hP⟩ : ∃ P, P = Pk.puts (fds vs) := ⟨_, rfl⟩
        rw [← hP] at HW HPL HPB
        have HP := hid hP
        have CA := hid (all_ws HW.out (by have := HPL.out; omega))
        have HG1 := hid HW.out.above
        clear H S0 HW hP
        go_wp2_with fail
        refine CA.out.mono ?_
        rintro e w2 ⟨A2, c2, rfl, hR, hG⟩
        have HR := hid hR
        have HG2 := hid (HG1.out.trans hG)
        clear hR hG CA HG1
        go_upto_region 9 with fail
        obtain ⟨p, hp⟩ : ∃ p, p = P.length := ⟨_, rfl⟩
        rw [← hp]
        obtain ⟨M, hM⟩ : ∃ M, M = max 1 p := ⟨_, rfl⟩
        obtain ⟨k, hk⟩ : ∃ k, k = cut % M := ⟨_, rfl⟩
        have hM1 : 1 ≤ M := by omega
        have hkM : k < M := by rw [hk]; exact Nat.mod_lt _ (by omega)
        have hkp : k ≤ p := by omega
        have HMK := hid (And.intro hM (And.intro hk hp))
        have HKP := hid (show 0 < p → k < P.length by omega)
        have hpb : p ≤ 910 * i := by rw [hp]; exact HPL.out
        have hxb : BytesAt w2 w2.heap.size A2 P := AllPost.bytes (w := wr) HPB.out HR.out
        have hcap := HR.out.cases.2.1
        rw [← hp] at hcap
        have CR := hid (fun (V : World) (hv : Grew w2 V) => read_c A2 c2 P V (hxb.grew hv) (by rw [← hp]; omega))
        have CS := hid (fun (V : World) (hv : Grew w2 V) => read_c A2 c2 (P.take k) V (NumsAt.to_bytes (((NumsAt.of_bytes hxb).grew hv).take k) (fun x hx => hxb.1 x (List.mem_of_mem_take hx))) (by rw [List.length_take]; omega))
        rw [show (P.take k).length = k by rw [List.length_take, ← hp]; omega] at CS
        rw [← hp] at CR
        have HW1 := hid (show IntKind.i64.wrap ((cut : Nat) : Int) = ((cut : Nat) : Int) from IntWalk.i64_in _ (by omega))
        have HMX := hid (show (max 1 ((p : Nat) : Int)) = ((M : Nat) : Int) by omega)
        have HTM := hid (show (((cut : Nat) : Int).tmod ((M : Nat) : Int)) = ((k : Nat) : Int) by rw [hk]; rfl)
        have hM0 : ¬ M = 0 := by omega
        have hkc : k ≤ c2 := by omega
        clear hM hk hp hxb HR
        refine wp_region_facts3 (w0 := w2) _ 9 11 [32, 33, 34, 35, 36, 37, 38, 39, 40, 41, 42] [1, 10] (Bk9F w2 p M k cut A2 c2 P) Grew (fun _ _ => True) 99 May.grew (by kernel_rfl) (by kernel_rfl) (Grew.refl _).drew trivial Bk9F.mono ?_ ?_
        · repeat' (first | exact trivial | apply And.intro)
          all_goals
            intro a w' b hgw hJ hbm hs hA
            have e0 := hs.eval 7 (by decide) (v := .slice A2 p c2) rfl
            have e1 := hs.eval 1 (by decide) (v := .int .u16 ((cut : Nat) : Int)) rfl
            have HGW := hid hgw
            clear hs hgw hJ hbm
            simp only [Ahead, Region.binds, slotOf, Bk9F, List.getD_cons_succ, List.getD_cons_zero, forall_const, and_true] at hA
            simp only [wantedD, if_true]
            unfold Oper.wp
            have ec : ∀ v, a.eval (.const v) = v := fun _ => rfl
            generalize hf : a.eval = f at *
            have ef : ∀ k, f (.func k) = Act.eval ⟨#[], []⟩ (.func k) := fun k => by rw [← hf]; rfl
            clear hf
            first
              | (go_simp; exact Gives3.of rfl (Grew.refl _) rfl trivial)
              | (go_simp; refine (CR.out _ HGW.out).mono ?_; rintro e w3 ⟨g1, rfl, h1, h2, h3⟩; exact Gives3.al h3 h1 h2.lt ⟨_, _, rfl, h2, HGW.out.below.size, h1⟩ trivial)
              | (go_simp; refine (CS.out _ HGW.out).mono ?_; rintro e w3 ⟨g1, rfl, h1, h2, h3⟩; exact Gives3.al h3 h1 h2.lt ⟨_, _, rfl, h2, HGW.out.below.size, h1⟩ trivial)
              | (go_simp; rw [HW1.out]; exact Gives3.of rfl (Grew.refl _) rfl trivial)
              | (go_simp; rw [HMX.out]; exact Gives3.of rfl (Grew.refl _) rfl trivial)
              | (go_simp; rw [HTM.out]; exact Gives3.of rfl (Grew.refl _) rfl trivial)
        · intro a w3 hgw hs hf _ hne
          have h1 := hf 1 (by decide)
          have h10 := hf 10 (by decide)
          have hn := hne 1 10 (by decide) (by decide) (by decide) (by decide) (by decide)
          simp only [slotOf, Bk9F, List.getD_cons_succ, List.getD_cons_zero] at h1 h10 hn
          obtain ⟨lr, gr, er, hr, hr1, hr2⟩ := h1
          obtain ⟨ls, gs, es, hs1, hs2, hs3⟩ := h10
          rw [er, es] at hn
          have hgrs : gr ≠ gs := fun h => hn (by rw [h])
          obtain ⟨f, rfl, hft⟩ := hs.put
          rw [hft] at er es
          have HR := hid (show RdAt w3 lr gr (some P) ∧ RdAt w3 ls gs (some (P.take k)) from ⟨hr, hs1⟩)
          have HRS := hid (show w2.heap.size ≤ lr ∧ lr ≤ gr ∧ w2.heap.size ≤ ls ∧ ls ≤ gs ∧ gr ≠ gs from ⟨hr1, hr2, hs2, hs3, hgrs⟩)
          have HG3 := hid (HG2.out.trans hgw)
          have HG23 := hid hgw
          clear hf hft hne hn hr hr1 hr2 hs1 hs2 hs3 hgrs hgw hs
          simp only [List.drop_succ_cons, List.drop_zero, putAll, List.foldl_cons, List.foldl_nil, Act.put, List.setIfInBounds_toArray, List.set_cons_succ, List.set_cons_zero, er, es]
          clear er es
          go_wp2_with fail
          go_loopw [10] (fun s10 wr => ∃ (j : Nat), s10 = .int .i64 ((j : Nat) : Int) ∧ j ≤ i ∧ Hid (RdAt wr lr gr (some (Pk.puts (fds (vs.drop j)))) ∧ RdAt wr ls gs (Pk.takes (some (P.take k)) ((fds (vs.take j)).map Pk.wide)) ∧ Grew w1 wr)) (fun s10 _ => i - (intOf s10).toNat)
          case atStart => exact ⟨0, rfl, Nat.zero_le _, hid ⟨by rw [List.drop_zero, ← HP.out]; exact HR.out.1, HR.out.2, HG3.out⟩⟩
          case round =>
            clear HR
            obtain ⟨j, rfl, hj, H⟩ := hrel
            by_cases hlt : j < i
            · have f1 : (j : Int) < i := by omega
              obtain ⟨v, hv⟩ : ∃ v, vs[j]? = some v := ⟨_, List.getElem?_eq_getElem (show j < vs.length by rw [← EN.out]; exact hlt)⟩
              have hmem := List.mem_of_getElem? hv
              have hsm := HS.out v hmem
              have hok := HA.out.1 v hmem
              have hOk : Pk.Ok v.f := ⟨hok.n, hok.l.1, by omega, by omega⟩
              have hdr : Pk.puts (fds (vs.drop j)) = Pk.put v.f ++ Pk.puts (fds (vs.drop (j + 1))) := by
                have hjl : j < vs.length := (List.getElem?_eq_some_iff.1 hv).1
                rw [List.drop_eq_getElem_cons hjl, show vs[j] = v from (List.getElem?_eq_some_iff.1 hv).2]
                exact Pk.puts_cons _ _
              have hrl : (Pk.put v.f ++ Pk.puts (fds (vs.drop (j + 1)))).length ≤ 1000000000000 := by
                rw [← hdr]
                have h1 := puts_len (fds (vs.drop j)) (fun f hf => by
                  obtain ⟨u, hu, rfl⟩ := List.mem_map.1 hf
                  exact HS.out u (List.mem_of_mem_drop hu))
                have h2 : (fds (vs.drop j)).length ≤ i := by simp [fds]; rw [← EN.out]; omega
                omega
              have hsl := Nat.le_trans (takes_rest ((fds (vs.take j)).map Pk.wide) (some (P.take k))) (show (Pk.rest (some (P.take k))).length ≤ 1000000000000 by
                simp only [Pk.rest, Option.getD_some, List.length_take]; omega)
              have HTk := hid (show Pk.takes (some (P.take k)) ((fds (vs.take (j + 1))).map Pk.wide) = (Pk.take (Pk.takes (some (P.take k)) ((fds (vs.take j)).map Pk.wide)) (Pk.wide v.f)).2 by
                rw [fds_take hv, List.map_append, List.map_singleton, Pk.takes_snoc])
              have hRr := H.out.1
              rw [hdr] at hRr
              have hRs := H.out.2.1
              obtain ⟨gf, hgf, t0, t1, t2⟩ := Pk.take_put hOk (Pk.puts (fds (vs.drop (j + 1))))
              generalize hsts : Pk.takes (some (P.take k)) ((fds (vs.take j)).map Pk.wide) = sts at *
              clear hsts
              obtain ⟨ad, rfl, q0, q1, q2, q3, q4, q5, q6⟩ := fds_cells HA.out H.out.2.2 hv
              obtain ⟨⟨kind, n0, l, s, many, lo, hi0⟩, A1, c1⟩ := v
              simp only at q0 q1 q2 q3 q4 q5 q6 t0 t1 t2 hsm
              have hsm60 := hid hsm.1
              have CR := hid (fun (V : World) (hV : RdAt V lr gr (some (Pk.put ⟨kind, n0, l, s, many, lo, hi0⟩ ++ Pk.puts (fds (vs.drop (j + 1)))))) => fread_cells (Pk.wide ⟨kind, n0, l, s, many, lo, hi0⟩) A1 c1 hV HRS.out.2.1 hok.kind hrl)
              rw [hgf] at CR
              have CS := hid (fun (V : World) (hV : RdAt V ls gs sts) => fread_cells (Pk.wide ⟨kind, n0, l, s, many, lo, hi0⟩) A1 c1 hV HRS.out.2.2.2.1 hok.kind hsl)
              simp only [Pk.wide] at CR CS HTk
              have HT := hid (And.intro t0 (And.intro t1 t2))
              have HRR := hid (And.intro hRr hRs)
              have HL := hid hok.l
              have HKD := hid hok.kind
              clear hv hmem hsm hok hOk hdr hrl hsl hRr hRs hgf t0 t1 t2
              obtain ⟨gk, gn, gl, gs', gm, glo, ghi⟩ := gf
              simp only at CR HT
              go_wp2_with fail
              have hba := Blk.new wr 29 #[.int .u8 ((kind : Nat) : Int), .int .i64 n0, .slice A1 l.length c1, .string s, .int .i64 300, .int .i64 (-9223372036854775808), .int .i64 9223372036854775807]
              have hga := (Grew.refl wr).alloc (.cells #[.int .u8 ((kind : Nat) : Int), .int .i64 n0, .slice A1 l.length c1, .string s, .int .i64 300, .int .i64 (-9223372036854775808), .int .i64 9223372036854775807] 29)
              have hgrl := HRR.out.1.lt
              have hgsl := HRR.out.2.lt
              generalize wr.alloc (.cells #[.int .u8 ((kind : Nat) : Int), .int .i64 n0, .slice A1 l.length c1, .string s, .int .i64 300, .int .i64 (-9223372036854775808), .int .i64 9223372036854775807] 29) = wa at *
              have hra := HRR.out.1.grew hga HRS.out.2.1
              have hsa := HRR.out.2.grew hga HRS.out.2.2.2.1
              have HGA := hid (H.out.2.2.trans hga)
              refine (CR.out wa hra).mono ?_
              rintro e w5 ⟨A3, c3, rfl, hok3, hnew3, hR5, hK5⟩
              have hS5 := hsa.apart hra (fun h => HRS.out.2.2.2.2 h.symm) hK5
              have hba5 := hba.kept hK5 (by omega)
              obtain ⟨y0, y1, y2, y3, y4, y5, y6, yf⟩ := hba5.seven
              have HBA5 := hid hba5
              have HR5 := hid (And.intro hR5 hS5)
              have HG5 := hid (hK5.grew HGA.out (fun k e => by subst e; have := HRS.out.1; have := HRS.out.2.1; have := HG2.out.below.size; omega))
              have HLI := hid (hok3.l)
              have HNew := hid (show ∀ ad, A3 = some ad → ad.block ≠ gs from fun ad e => by have := hnew3 ad e; have := hga.below.size; omega)
              have hsz5 := Nat.le_trans hga.below.size hK5.size
              have hablk := hba5.lt
              clear hba hga hra hsa HGA hok3 hnew3 hR5 hK5 hS5 hba5 CR
              go_wp2_with fail
              have hbb := Blk.new w5 29 #[.int .u8 ((gk : Nat) : Int), .int .i64 gn, .slice A3 gl.length c3, .string gs', .int .i64 gm, .int .i64 glo, .int .i64 ghi]
              have hgb := (Grew.refl w5).alloc (.cells #[.int .u8 ((gk : Nat) : Int), .int .i64 gn, .slice A3 gl.length c3, .string gs', .int .i64 gm, .int .i64 glo, .int .i64 ghi] 29)
              generalize w5.alloc (.cells #[.int .u8 ((gk : Nat) : Int), .int .i64 gn, .slice A3 gl.length c3, .string gs', .int .i64 gm, .int .i64 glo, .int .i64 ghi] 29) = wb at *
              have hrb := HR5.out.1.grew hgb HRS.out.2.1
              have hsb := HR5.out.2.grew hgb HRS.out.2.2.2.1
              refine (CS.out wb hsb).mono ?_
              rintro e w7 ⟨A4, c4, rfl, _, _, hS7, hK7⟩
              have hR7 := hrb.apart hsb HRS.out.2.2.2.2 hK7
              have HBA := hid ((HBA5.out.grew hgb).kept hK7 (by omega))
              have HBB := hid (hbb.kept hK7 (by omega))
              have HG7 := hid (hK7.grew (HG5.out.trans hgb) (fun k e => by subst e; have := HRS.out.2.2.1; have := HRS.out.2.2.2.1; have := HG2.out.below.size; omega))
              have HLX := hid (((HLI.out.kept (F := fun _ => False) (.of_grew hgb) (Nat.le_refl _) (fun _ _ _ h => h)).kept hK7 hgb.below.size (fun ad e _ => HNew.out ad e)).wide (Nat.le_trans hgb.below.size hK7.size))
              have HLF := hid (HL.out.grew HG7.out)
              have HEnd := hid (show RdAt w7 lr gr (some (Pk.puts (fds (vs.drop (j + 1))))) ∧ RdAt w7 ls gs (Pk.takes (some (P.take k)) ((fds (vs.take (j + 1))).map Pk.wide)) ∧ Grew w1 w7 from ⟨hR7, by rw [HTk.out]; exact hS7, HG7.out⟩)
              clear y0 y1 y2 y3 y4 y5 y6 yf hbb hgb hrb hsb hS7 hK7 hR7 HBA5 HR5 HG5 HLI HNew CS HTk
              obtain ⟨y0, y1, y2, y3, y4, y5, y6, yf⟩ := HBA.out.seven
              obtain ⟨z0, z1, z2, z3, z4, z5, z6, zf⟩ := HBB.out.seven
              go_upto_region 17 with fail
              rcases (by omega : kind = 0 ∨ kind = 1 ∨ (kind ≠ 0 ∧ kind ≠ 1)) with rfl | rfl | ⟨k0, k1⟩
              · obtain rfl := HT.out.1 rfl
                rw [show (((0 : Nat) : Nat) : Int) = 0 from rfl] at y0
                clear y2 y3 y4 y5 y6 yf z0 z2 z3 z4 z5 z6 zf
                go_wp2_with fail
                go_roundw
                case rel => exact ⟨j + 1, by go_num, by omega, HEnd⟩
                case measure => simp [intOf]; omega
              · have HGl := hid (HT.out.2.1 rfl)
                have CI := hid (show Calls Tryd.prog 21 #[.slice A3 gl.length c3, .slice A1 l.length c1] w7 (fun e w' => e = .returned (.bool true) ∧ Grew w7 w') from by
                  have := ints_c A3 c3 gl A1 c1 l w7 HLX.out HLF.out (.inr (by have := hsm60.out; omega))
                  rw [decide_eq_true HGl.out] at this
                  exact this)
                rw [show (((1 : Nat) : Nat) : Int) = 1 from rfl] at y0
                clear y1 y3 y4 y5 y6 yf z0 z1 z3 z4 z5 z6 zf
                go_wp2_with fail
                refine CI.out.mono ?_
                rintro e w8 ⟨rfl, hg8⟩
                have HEnd2 := hid (And.intro (HEnd.out.1.grew hg8 HRS.out.2.1) (And.intro (HEnd.out.2.1.grew hg8 HRS.out.2.2.2.1) (HEnd.out.2.2.trans hg8)))
                clear hg8 CI
                go_wp2_with fail
                go_roundw
                case rel => exact ⟨j + 1, by go_num, by omega, HEnd2⟩
                case measure => simp [intOf]; omega
              · obtain rfl := HT.out.2.2 k0 k1
                have t0 : ((kind : Int) == 0) = false := by rw [beq_eq_false_iff_ne]; omega
                have t1 : ((kind : Int) == 1) = false := by rw [beq_eq_false_iff_ne]; omega
                clear y1 y2 y4 y5 y6 yf z0 z1 z2 z4 z5 z6 zf k0 k1
                go_wp2_with fail
                go_roundw
                case rel => exact ⟨j + 1, by go_num, by omega, HEnd⟩
                case measure => simp [intOf]; omega
            · obtain rfl : j = i := by omega
              have HRf := hid (show RdAt wr lr gr (some []) by
                have := H.out.1
                rwa [List.drop_eq_nil_of_le (by rw [← EN.out]; omega)] at this)
              have HSf := hid (show RdAt wr ls gs (Pk.takes (some (P.take k)) ((fds vs).map Pk.wide)) by
                have h1 : vs.take j = vs := List.take_of_length_le (by rw [← EN.out]; omega)
                have := H.out.2.1
                rwa [h1] at this)
              have HGf := hid H.out.2.2
              have HOks := hid (show ∀ f ∈ fds vs, Pk.Ok f from fun f hf => by
                obtain ⟨u, hu, rfl⟩ := List.mem_map.1 hf
                have h1 := HA.out.1 u hu
                have h2 := HS.out u hu
                exact ⟨h1.n, h1.l.1, by omega, by omega⟩)
              have CD := hid (rdone_ok HRf.out)
              have HNe := hid (show 0 < p → Pk.takes (some (P.take k)) ((fds vs).map Pk.wide) ≠ some [] from fun h => by
                have h1 := HKP.out h
                rw [HP.out] at h1 ⊢
                exact Pk.takes_cut HOks.out h1)
              clear H HRf HOks
              by_cases hp0 : p = 0
              · have t0 : ((p : Int) == 0) = true := by rw [hp0]; rfl
                clear HNe
                go_wp2_with fail
                refine CD.out.mono ?_
                rintro e w7 ⟨rfl, rfl⟩
                clear CD
                go_wp2_with fail
                refine (sure6_c _ (Hg.out.grew HGf.out)).mono ?_
                rintro e w8 ⟨rfl, hg⟩
                have HE := hid (HGf.out.trans hg)
                clear hg
                go_wp2_with fail
                go_ret
                exact ⟨rfl, HE.out⟩
              · have t0 : ((p : Int) == 0) = false := by rw [beq_eq_false_iff_ne]; omega
                have CN := hid (rdone_no HSf.out (HNe.out (by omega)))
                clear HNe
                go_wp2_with fail
                refine CD.out.mono ?_
                rintro e w7 ⟨rfl, rfl⟩
                clear CD
                go_wp2_with fail
                refine CN.out.mono ?_
                rintro e w7 ⟨rfl, rfl⟩
                clear CN
                go_wp2_with fail
                refine (num_c 2 _ (Hg.out.grew HGf.out)).mono ?_
                rintro e w8 ⟨rfl, hg⟩
                have HG8 := hid (HGf.out.trans hg)
                clear hg
                go_wp2_with fail
                refine (sure6_c _ (Hg.out.grew HG8.out)).mono ?_
                rintro e w9 ⟨rfl, hg⟩
                have HE := hid (HG8.out.trans hg)
                clear hg
                go_wp2_with fail
                go_ret
                exact ⟨rfl, HE.out⟩
  · rw [hbig] at CG
    clear hbig hl
    go_enter Tryd.func4, Tryd.ntmps4
    go_wp2_with fail
    refine CG.out.mono ?_
    rintro e w1 ⟨rfl, rfl⟩
    clear CG
    go_wp2_with fail
    refine (sure6_c _ Hg.out).mono ?_
    rintro e w2 ⟨rfl, hg⟩
    go_wp2_with fail
    go_ret
    exact ⟨rfl, hg⟩
end Go.Proofs.YtglekjhbpdoofaaDoor

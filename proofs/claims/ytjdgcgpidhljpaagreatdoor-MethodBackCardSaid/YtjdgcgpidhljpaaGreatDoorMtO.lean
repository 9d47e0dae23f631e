/- Stage 9: Encode. -/
import Derived.Test.YtjdgcgpidhljpaaGreatDoorMtN
namespace Go.Proofs.YtjdgcgpidhljpaaGreatDoor
open Go.RowKit

theorem encText_len (s : List Nat) : (Mt.encText s).length ≤ 10 + s.length := by
  unfold Mt.encText
  rw [List.length_append]
  have := Vi.enc_len (s.length : Int)
  omega
theorem encLits_len : ∀ (l : List Mt.Lit), (∀ x ∈ l, x.s.size ≤ 2000) → (Mt.encLits l).length ≤ 2020 * l.length
  | [], _ => by simp [Mt.encLits]
  | x :: r, h => by
    have i := encLits_len r (fun y hy => h y (by simp [hy]))
    have h1 := Vi.enc_len ((x.k : Nat) : Int)
    have h2 := encText_len (Pk.natsOf x.s)
    have h3 := h x (by simp)
    rw [Pk.natsOf_len] at h2
    unfold Mt.encLits at i ⊢
    rw [List.flatMap_cons, List.length_append, Mt.encLit, List.length_append, List.length_cons]
    omega
theorem encParts_len : ∀ (l : List Mt.Part), (∀ x ∈ l, x.code.length ≤ 1000) → (Mt.encParts l).length ≤ 1040 * l.length
  | [], _ => by simp [Mt.encParts]
  | x :: r, h => by
    have i := encParts_len r (fun y hy => h y (by simp [hy]))
    have h0 := Vi.enc_len x.outer
    have h1 := Vi.enc_len x.args
    have h4 := Vi.enc_len x.temps
    have h2 := encText_len x.code
    have h3 := h x (by simp)
    unfold Mt.encParts at i ⊢
    rw [List.flatMap_cons, List.length_append, Mt.encPart, List.length_append, List.length_append, List.length_append, List.length_cons]
    omega
/-- What is written before literal i. -/
def pre1 (s : ByteArray) (l : List Mt.Lit) (i : Nat) : List Nat := Mt.encText (Pk.natsOf s) ++ (Vi.enc (l.length : Int) ++ Mt.encLits (l.take i))
/-- What is written before part i. -/
def pre2 (s : ByteArray) (l : List Mt.Lit) (ps : List Mt.Part) (i : Nat) : List Nat := Mt.encText (Pk.natsOf s) ++ (Vi.enc (l.length : Int) ++ (Mt.encLits l ++ (Vi.enc (ps.length : Int) ++ Mt.encParts (ps.take i))))
theorem pre1_start (s : ByteArray) (l : List Mt.Lit) : [] ++ (Vi.enc (s.size : Int) ++ Pk.natsOf s) ++ Pk.encs [(l.length : Int)] = pre1 s l 0 := by
  simp [pre1, Mt.encText, Pk.natsOf_len, Pk.encs, Mt.encLits]
theorem pre1_step {s : ByteArray} {l : List Mt.Lit} {i : Nat} {x : Mt.Lit} (hx : l[i]? = some x) : pre1 s l i ++ Pk.encs [((x.k : Nat) : Int)] ++ (Vi.enc (x.s.size : Int) ++ Pk.natsOf x.s) = pre1 s l (i + 1) := by
  rw [pre1, pre1, List.take_add_one, hx]
  simp [Mt.encLits_snoc, Mt.encLit, Mt.encText, Pk.natsOf_len, Pk.encs]
theorem pre2_start (s : ByteArray) (l : List Mt.Lit) (ps : List Mt.Part) : pre1 s l l.length ++ Pk.encs [(ps.length : Int)] = pre2 s l ps 0 := by
  simp [pre1, pre2, Pk.encs, Mt.encParts]
theorem pre2_step {s : ByteArray} {l : List Mt.Lit} {ps : List Mt.Part} {i : Nat} {x : Mt.Part} (hx : ps[i]? = some x) (hb : ∀ y ∈ x.code, y < 256) : pre2 s l ps i ++ Pk.encs [x.outer, x.args, x.temps] ++ (Vi.enc ((Pk.strB x.code).size : Int) ++ Pk.natsOf (Pk.strB x.code)) = pre2 s l ps (i + 1) := by
  rw [pre2, pre2, List.take_add_one, hx, Mt.nats_of_str hb, Mt.strB_size]
  simp [Mt.encParts_snoc, Mt.encPart, Mt.encText, Pk.encs]
theorem pre2_end (s : ByteArray) (l : List Mt.Lit) (ps : List Mt.Part) : pre2 s l ps ps.length = Mt.enc ⟨s, l, ps⟩ := by
  rw [pre2, List.take_length]; rfl
theorem pre1_len {s : ByteArray} {l : List Mt.Lit} (hs : s.size ≤ 2000) (hl : l.length ≤ 100) (h : ∀ x ∈ l, x.s.size ≤ 2000) (i : Nat) : (pre1 s l i).length ≤ 300000 := by
  have h1 := encText_len (Pk.natsOf s)
  have h2 := Vi.enc_len (l.length : Int)
  have h3 := encLits_len (l.take i) (fun x hx => h x (List.mem_of_mem_take hx))
  have h4 : (l.take i).length ≤ l.length := by rw [List.length_take]; omega
  rw [Pk.natsOf_len] at h1
  rw [pre1, List.length_append, List.length_append]
  omega
theorem pre2_len {s : ByteArray} {l : List Mt.Lit} {ps : List Mt.Part} (hs : s.size ≤ 2000) (hl : l.length ≤ 100) (h : ∀ x ∈ l, x.s.size ≤ 2000) (hp : ps.length ≤ 100) (g : ∀ x ∈ ps, x.code.length ≤ 1000) (i : Nat) : (pre2 s l ps i).length ≤ 600000 := by
  have h1 := encText_len (Pk.natsOf s)
  have h2 := Vi.enc_len (l.length : Int)
  have h3 := encLits_len l h
  have h5 := Vi.enc_len (ps.length : Int)
  have h6 := encParts_len (ps.take i) (fun x hx => g x (List.mem_of_mem_take hx))
  have h4 : (ps.take i).length ≤ ps.length := by rw [List.length_take]; omega
  rw [Pk.natsOf_len] at h1
  rw [pre2, List.length_append, List.length_append, List.length_append, List.length_append]
  omega
/-- Numbers are written; a box that was made just before abides. -/
theorem wint_keep {W w : World} {g : Nat} {xs : List Nat} (h : WS W w g xs) (X : Array Value) (tX : TypeId) (L : List Int) (n H : Nat) (t : TypeId) (hn : L.length = n) (hH : w.heap.size + 1 = H) (hL : ∀ x ∈ L, Vi.I64 x) (hl : xs.length + 10 * L.length ≤ 1000000000000) :
    Calls Tryz.prog 26 #[.pointer (some ⟨g, 0, none⟩), .slice (some ⟨H, 0, none⟩) n n] ((w.alloc (.cells X tX)).alloc (.cells (intCellsP L).toArray t)) fun e w' => e = .returned (.tuple #[]) ∧ WS W w' g (xs ++ Pk.encs L) ∧ Blk w' w.heap.size tX X := by
  obtain ⟨Y, h1, h2⟩ := h
  have hg1 : Grew w (w.alloc (.cells X tX)) := (Grew.refl w).alloc _
  have hs : (w.alloc (.cells X tX)).heap.size = H := by rw [World.size_alloc]; exact hH
  have hyw : ¬ Y w.heap.size := fun hy => by have := (h1.1 _ hy).2; omega
  subst hn
  have hil := ints_lit (w.alloc (.cells X tX)) t L hL
  rw [hs] at hil
  refine (wint_c W.heap.size g xs Y _ _ L _ ((h1.grew hg1).grew ((Grew.refl _).alloc _)) ((h2.trans hg1).alloc _).below.size hil (fun ad e _ hy => by cases e; have := (h1.1 _ hy).2; simp only at this; omega) hl).mono fun e w' hw => ?_
  obtain ⟨he, Y2, k1, k2, k3⟩ := hw
  exact ⟨he, ⟨Y2, k1, k3.grew ((h2.trans hg1).alloc _) (fun k hk => (h1.1 k hk).1)⟩, Blk.kept ((Blk.new w tX X).grew ((Grew.refl _).alloc _)) k3 hyw⟩
/-- What Encode answers. -/
def EncPost (w : World) (m : Mt.Meth) (e : Ending) (w' : World) : Prop :=
  ∃ A c bs k, e = .returned (.tuple #[.slice A (List.length bs) c, errVal k]) ∧ BytesAt w' w'.heap.size A bs ∧ bs.length ≤ c ∧ c ≤ 9223372036854775807 ∧ Grew w w' ∧ ((Mt.fitsAll m = true ∧ bs = Mt.enc m ∧ k = 0) ∨ (Mt.fitsAll m = false ∧ bs = [] ∧ k = 1))
set_option maxRecDepth 100000 in
set_option maxHeartbeats 4000000 in
theorem encode9_c (v : MV) (w : World) (h : MethAt w v) : Calls Tryz.prog 11 #[.agg (mvCells v)] w (EncPost w v.m) := by
  have HC := hid (encodable_c v (w.alloc (.cells (mvCells v) 37)) (h.grew ((Grew.refl w).alloc _)))
  have HG := hid ((Grew.refl w).alloc (.cells (mvCells v) 37))
  have HB := hid (Blk.new w 37 (mvCells v))
  have HL := hid (h.lits.grew HG.out)
  have HP := hid (h.parts.grew HG.out)
  have hl1 := h.l1
  have hl2 := h.l2
  have hsz := h.sel
  cases hf : Mt.fitsAll v.m
  · have HF := hid hf
    rw [hf] at HC
    clear h hf HL HP HB hl1 hl2 hsz
    unfold mvCells at *
    go_enter Tryz.func11, Tryz.ntmps11
    go_wp2_with fail
    refine HC.out.mono ?_
    rintro e w1 ⟨rfl, hg⟩
    go_wp2_with fail
    go_ret2
    exact ⟨none, 0, [], 1, rfl, BytesAt.nil _ _ _, by decide, by decide, HG.out.trans hg, .inr ⟨HF.out, rfl, rfl⟩⟩
  · have HF := hid hf
    rw [hf] at HC
    have HM := hid (show v.m = ⟨v.sel, v.lits, v.vs.map (·.p)⟩ from rfl)
    have HPf : Hid (∀ x ∈ v.vs, Vi.I64 x.p.outer ∧ Vi.I64 x.p.args ∧ Vi.I64 x.p.temps) := hid (fun x hx => by
      simp only [Mt.fitsAll, Bool.and_eq_true] at hf
      have h1 := List.all_eq_true.1 hf.2.2.2.2 x.p (List.mem_map.2 ⟨x, hx, rfl⟩)
      simp only [Mt.partFits, Bool.and_eq_true, decide_eq_true_eq] at h1
      unfold Vi.I64
      omega)
    have HS1 : Hid (∀ i, (pre1 v.sel v.lits i).length ≤ 300000) := hid (fun i => pre1_len hsz hl1 (fun x hx => (h.lits.1 x hx).2) i)
    have HS2 : Hid (∀ i, (pre2 v.sel v.lits (v.vs.map (·.p)) i).length ≤ 600000) := hid (fun i => pre2_len hsz hl1 (fun x hx => (h.lits.1 x hx).2) (by rw [List.length_map]; exact hl2) (fun x hx => by
      obtain ⟨y, hy, rfl⟩ := List.mem_map.1 hx
      exact (h.parts.1 y hy).2.2.2) i)
    clear h hf
    generalize v.m = m at *
    obtain ⟨s, l, A1, c1, vs, A2, c2⟩ := v
    unfold mvCells at *
    simp only at HC HG HB HL HP hl1 hl2 hsz HM HPf HS1 HS2 ⊢
    obtain ⟨n1, en1⟩ : ∃ n1, n1 = l.length := ⟨_, rfl⟩
    obtain ⟨n2, en2⟩ : ∃ n2, n2 = vs.length := ⟨_, rfl⟩
    rw [← en1] at HC HG HB HL HP hl1 ⊢
    rw [← en2] at HC HG HB HL HP hl2 ⊢
    have EN1 := hid en1
    have EN2 := hid en2
    clear en1 en2
    go_enter Tryz.func11, Tryz.ntmps11
    go_wp2_with fail
    refine HC.out.mono ?_
    rintro e w1 ⟨rfl, hg1⟩
    generalize w.alloc (.cells #[.string s, .slice A1 n1 c1, .slice A2 n2 c2] 37) = W0 at *
    have HW := hid (WS.new hg1)
    have hgr2 := hg1.alloc (.cells #[.pointer none, .int .i64 0] 73)
    have r0 := (HB.out.grew hgr2).cell 0
    simp only [List.getElem?_toArray, List.getElem?_cons_zero] at r0
    clear hg1 hgr2
    have HT := hid (wtext_ws HW.out s (by simp; omega))
    go_wp2_with fail
    clear HC HW r0
    generalize w1.heap.size = g at *
    refine HT.out.mono ?_
    rintro e w3 ⟨rfl, hw3⟩
    have r1 := (HB.out.grew hw3.above).cell 1
    simp only [List.getElem?_toArray, List.getElem?_cons_zero, List.getElem?_cons_succ] at r1
    have HT2 := hid (wint_lit hw3 [((n1 : Nat) : Int)] 1 w3.heap.size 3 rfl rfl (by intro x hx; rw [List.mem_singleton.1 hx]; unfold Vi.I64; omega) (by
      rw [List.nil_append, List.length_append, Pk.natsOf_len]
      have := (Vi.enc_len (s.size : Int)).2
      simp only [List.length_singleton]
      omega))
    clear hw3 HT
    rw [show intCellsP [((n1 : Nat) : Int)] = [.int .i64 ((n1 : Nat) : Int)] from rfl] at HT2
    go_wp2_with fail
    clear r1
    refine HT2.out.mono ?_
    rintro e w4 ⟨rfl, hw4⟩
    rw [EN1.out, pre1_start] at hw4
    have r1 := (HB.out.grew hw4.above).cell 1
    simp only [List.getElem?_toArray, List.getElem?_cons_zero, List.getElem?_cons_succ] at r1
    have HW4 := hid hw4
    clear hw4 HT2
    go_wp2_with fail
    clear r1
    go_loopw [6, 28] (fun _ s28 wr => ∃ i : Nat, s28 = .int .i64 ((i : Nat) : Int) ∧ i ≤ n1 ∧ Hid (WS W0 wr g (pre1 s l i))) (fun _ s28 _ => n1 - (intOf s28).toNat)
    case atStart => exact ⟨0, rfl, Nat.zero_le _, HW4⟩
    case round =>
      obtain ⟨i, rfl, hi, HI⟩ := hrel
      clear HW4
      by_cases hlt : i < n1
      · have f1 : (i : Int) < n1 := by omega
        obtain ⟨ad, x, rfl, hx, q0, q1, _⟩ := lit_at HL.out HI.out.above (i := i) (by rw [← EN1.out]; exact hlt)
        have hstep := pre1_step (s := s) hx
        have hxo := HL.out.1 x (List.mem_of_getElem? hx)
        have hws := HI.out.grew ((Grew.refl wr).alloc (.cells (litCells2 x) 62))
        have hs1 := HS1.out i
        obtain ⟨k, xs⟩ := x
        unfold litCells2 at hws
        simp only at q0 q1 hstep hxo hws
        have hk : IntKind.i64.wrap ((k : Nat) : Int) = ((k : Nat) : Int) := by unfold IntKind.wrap; simp [IntKind.bits, IntKind.signed]; omega
        have HT := hid (wint_keep HI.out (litCells2 ⟨k, xs⟩) 62 [((k : Nat) : Int)] 1 (wr.heap.size + 1) 3 rfl rfl (by intro y hy; rw [List.mem_singleton.1 hy]; unfold Vi.I64; omega) (by simp only [List.length_singleton]; omega))
        rw [show intCellsP [((k : Nat) : Int)] = [.int .i64 ((k : Nat) : Int)] from rfl] at HT
        unfold litCells2 at HT
        simp only at HT
        have HSt := hid hstep
        have hlen1 : (Pk.encs [((k : Nat) : Int)]).length ≤ 10 := by
          rw [encs_one]; exact (Vi.enc_len _).2
        have HLe := hid (show (pre1 s l i ++ Pk.encs [((k : Nat) : Int)]).length + xs.size + 10 ≤ 1000000000000 by rw [List.length_append]; omega)
        clear hx hstep hxo hws hs1 hlen1
        go_wp2_with fail
        refine HT.out.mono ?_
        rintro e w5 ⟨rfl, hw5, hbx⟩
        have p1 := hbx.cell 1
        simp only [List.getElem?_toArray, List.getElem?_cons_zero, List.getElem?_cons_succ] at p1
        have HT5 := hid (wtext_ws hw5 xs HLe.out)
        clear hw5 hbx HT
        go_wp2_with fail
        refine HT5.out.mono ?_
        rintro e w6 ⟨rfl, hw6⟩
        rw [HSt.out] at hw6
        have HW6 := hid hw6
        clear hw6 HT5
        go_wp2_with fail
        go_round
        case rel => exact ⟨i + 1, by go_num, by omega, HW6⟩
        case measure => simp [intOf]; omega
      · have hin : i = n1 := by omega
        subst hin
        have r2 := (HB.out.grew HI.out.above).cell 2
        simp only [List.getElem?_toArray, List.getElem?_cons_zero, List.getElem?_cons_succ] at r2
        have hs1 := HS1.out i
        have HT2 := hid (wint_lit HI.out [((n2 : Nat) : Int)] 1 wr.heap.size 3 rfl rfl (by intro x hx; rw [List.mem_singleton.1 hx]; unfold Vi.I64; omega) (by simp only [List.length_singleton]; omega))
        rw [show intCellsP [((n2 : Nat) : Int)] = [.int .i64 ((n2 : Nat) : Int)] from rfl] at HT2
        go_wp2_with fail
        clear r2
        refine HT2.out.mono ?_
        rintro e w4 ⟨rfl, hw4⟩
        have hn2 : ((n2 : Nat) : Int) = ((vs.map (·.p)).length : Int) := by rw [List.length_map, ← EN2.out]
        rw [EN1.out, hn2, pre2_start] at hw4
        have r2 := (HB.out.grew hw4.above).cell 2
        simp only [List.getElem?_toArray, List.getElem?_cons_zero, List.getElem?_cons_succ] at r2
        have HW4 := hid hw4
        clear hw4 HT2 hn2
        go_wp2_with fail
        clear r2
        go_loopw [8, 52] (fun _ s52 wr => ∃ j : Nat, s52 = .int .i64 ((j : Nat) : Int) ∧ j ≤ n2 ∧ Hid (WS W0 wr g (pre2 s l (vs.map (·.p)) j))) (fun _ s52 _ => n2 - (intOf s52).toNat)
        case atStart => exact ⟨0, rfl, Nat.zero_le _, HW4⟩
        case round =>
          obtain ⟨j, rfl, hj, HJ⟩ := hrel
          clear HW4
          by_cases hlt : j < n2
          · have f1 : (j : Int) < n2 := by omega
            obtain ⟨ad, x, rfl, hx, q0, q1, q2, q3, _⟩ := pv_at HP.out HJ.out.above (i := j) (by rw [← EN2.out]; exact hlt)
            have hxo := HP.out.1 x (List.mem_of_getElem? hx)
            have hstep := pre2_step (s := s) (l := l) (ps := vs.map (·.p)) (i := j) (x := x.p) (by rw [List.getElem?_map, hx]; rfl) hxo.1.1
            have hi64 := HPf.out x (List.mem_of_getElem? hx)
            have hs2 := HS2.out j
            have hT := wint_keep HJ.out (pvCells x) 63 [x.p.outer, x.p.args, x.p.temps] 3 (wr.heap.size + 1) 3 rfl rfl (by
              intro y hy
              simp only [List.mem_cons, List.not_mem_nil, or_false] at hy
              rcases hy with rfl | rfl | rfl
              · exact hi64.1
              · exact hi64.2.1
              · exact hi64.2.2) (by simp only [List.length_cons, List.length_nil]; omega)
            rw [show intCellsP [x.p.outer, x.p.args, x.p.temps] = [.int .i64 x.p.outer, .int .i64 x.p.args, .int .i64 x.p.temps] from rfl] at hT
            have hlen1 : (Pk.encs [x.p.outer, x.p.args, x.p.temps]).length ≤ 30 := (Pk.encs_len _).2
            have HT := hid hT
            have HSt := hid hstep
            have HXo := hid hxo
            have HLe := hid (show (pre2 s l (vs.map (·.p)) j ++ Pk.encs [x.p.outer, x.p.args, x.p.temps]).length + (Pk.strB x.p.code).size + 10 ≤ 1000000000000 by
              have := hxo.2.2.2
              rw [List.length_append, Mt.strB_size]; omega)
            clear hx hstep hxo hs2 hlen1 hT hi64
            obtain ⟨⟨po, pa, pt, code⟩, Ac, cc⟩ := x
            unfold pvCells at HT
            simp only at q0 q1 q2 q3 HT HSt HXo HLe
            have HNu : Hid (∀ w', Grew W0 w' → (convert 26 9 (.slice Ac code.length cc)).run Tryz.prog w' = .ok (.string (Pk.strB code)) w') := hid (fun w' hg => conv6 Ac cc code w' (NumsAt.of_bytes (HXo.out.1.grew hg)))
            generalize code.length = cl at *
            go_wp2_with fail
            refine HT.out.mono ?_
            rintro e w5 ⟨rfl, hw5, hbx⟩
            have p3 := hbx.cell 3
            simp only [List.getElem?_toArray, List.getElem?_cons_zero, List.getElem?_cons_succ] at p3
            have hcv := HNu.out w5 hw5.above
            have HT5 := hid (wtext_ws hw5 (Pk.strB code) HLe.out)
            clear hw5 hbx HT
            go_wp2_with fail
            refine HT5.out.mono ?_
            rintro e w6 ⟨rfl, hw6⟩
            rw [HSt.out] at hw6
            have HW6 := hid hw6
            clear hw6 HT5
            go_wp2_with fail
            go_round
            case rel => exact ⟨j + 1, by go_num, by omega, HW6⟩
            case measure => simp [intOf]; omega
          · have hjn : j = n2 := by omega
            subst hjn
            have hs2 := HS2.out j
            have hj2 : j = (vs.map (·.p)).length := by rw [List.length_map]; exact EN2.out
            have hfull : pre2 s l (vs.map (·.p)) j = Mt.enc m := by
              rw [HM.out, ← pre2_end s l (vs.map (·.p)), ← hj2]
            have hbytes : ∀ x ∈ pre2 s l (vs.map (·.p)) j, x < 256 := by
              rw [hfull]
              refine Mt.enc_bytes ?_
              rw [HM.out]
              intro p hp
              obtain ⟨y, hy, rfl⟩ := List.mem_map.1 hp
              exact (HP.out.1 y hy).1.1
            have HFu := hid hfull
            have HBy := hid hbytes
            have HAb := hid HJ.out.above
            have HAll := hid (all_ws HJ.out (by omega))
            clear HJ hs2 hj2 hfull hbytes HS1 HS2 HPf HM HP HL HI
            generalize pre2 s l (vs.map (·.p)) j = P at *
            go_wp2_with fail
            refine HAll.out.mono ?_
            rintro e w7 ⟨A, c, rfl, hR, hg7⟩
            have HR := hid hR
            have HG7 := hid hg7
            clear hR hg7
            go_wp2_with fail
            go_ret2
            have hcase := Row.cases HR.out
            exact ⟨A, c, P, 0, rfl, AllPost.bytes (w := wr) HBy.out HR.out, hcase.2.1, hcase.2.2.1, HG.out.trans (HAb.out.trans HG7.out), .inl ⟨HF.out, HFu.out, rfl⟩⟩
end Go.Proofs.YtjdgcgpidhljpaaGreatDoor

/- Parts of elder texts that this layer needs, joined: XMtJ XMtK. -/
import Derived.Test.YtjladeiecokpfaaGreatDoorZMtG
namespace Go.Proofs.YtjladeiecokpfaaGreatDoor
open Go.RowKit

/-- What lies about: the table of instructions, the library's own number. -/
structure Env (w : World) : Prop where
  tab : TabAt w
  mx : MaxAt w
theorem Env.grew {w w' : World} (h : Env w) (hg : Grew w w') : Env w' := ⟨h.tab.grew hg, h.mx.grew hg⟩
section
variable {lits : List Mt.Lit} {vs : List PV} {A1 A2 : Option Addr} {n1 n2 c1 c2 : Nat} {vars classes : Int} {p : Nat} {oa ob : Int} {w : World} {sel : ByteArray}
theorem AlIn.grew {w' : World} (h : AlIn w lits vs A1 A2 n1 n2 p oa ob) (hg : Grew w w') : AlIn w' lits vs A1 A2 n1 n2 p oa ob := ⟨h.l.grew hg, h.v.grew hg, h.hn1, h.hn2, h.few, h.heads, h.hp, h.ha, h.hb, h.mx.grew hg⟩
def scCells (A1 : Option Addr) (n1 c1 : Nat) (A2 : Option Addr) (n2 c2 : Nat) (vars classes : Int) : Array Value := #[.slice A1 n1 c1, .slice A2 n2 c2, .int .i64 vars, .int .i64 classes]
set_option maxRecDepth 100000 in
set_option maxHeartbeats 1000000 in
theorem notAllowed_c (h : AlIn w lits vs A1 A2 n1 n2 p oa ob) (cd : Nat) (gs gp : Nat) (hs : Blk w gs 141 (scCells A1 n1 c1 A2 n2 c2 vars classes)) (hp : Blk w gp 3 #[.int .i64 ((p : Nat) : Int)]) (b : Bool) (hb : b = Mt.fits ⟨sel, lits, vs.map (·.p)⟩ p ⟨cd, oa, ob⟩ vars classes) :
    Calls Tryz.prog 107 #[.agg #[.int .u8 ((cd : Nat) : Int), .int .i64 oa, .int .i64 ob], .pointer (some ⟨gs, 0, none⟩), .pointer (some ⟨gp, 0, none⟩)] w fun e w' => e = .returned (.bool (!b)) ∧ Grew w w' := by
  have HG := hid ((Grew.refl w).alloc (.cells #[.int .u8 ((cd : Nat) : Int), .int .i64 oa, .int .i64 ob] 181))
  have HA : Hid (Al _ A1 n1 c1 A2 n2 c2 vars classes p cd oa ob b) := hid (by rw [hb]; exact allows_c (sel := sel) (h.grew HG.out) cd)
  have s0 := (hs.grew HG.out).cell 0
  have s1 := (hs.grew HG.out).cell 1
  have s2 := (hs.grew HG.out).cell 2
  have s3 := (hs.grew HG.out).cell 3
  have p0 := (hp.grew HG.out).cell 0
  simp only [scCells, List.getElem?_toArray, List.getElem?_cons_zero, List.getElem?_cons_succ] at s0 s1 s2 s3 p0
  clear h hs hp hb
  go_enter Tryz.func107, Tryz.ntmps107
  go_wp2_with fail
  refine Calls.mono HA.out ?_
  rintro e w1 ⟨rfl, hg⟩
  go_wp2_with fail
  go_ret
  exact ⟨rfl, HG.out.trans hg⟩
/-- What 'allowsCode' is called in. -/
structure AcIn (w : World) (lits : List Mt.Lit) (vs : List PV) (A1 A2 : Option Addr) (n1 n2 p : Nat) : Prop where
  l : LitsAt w A1 lits
  v : PartsAt w A2 vs
  hn1 : n1 = lits.length
  hn2 : n2 = vs.length
  few : n2 ≤ 100
  heads : Mt.HeadsOk (vs.map (·.p))
  hp : p < n2
  env : Env w
theorem AcIn.grew {w' : World} (h : AcIn w lits vs A1 A2 n1 n2 p) (hg : Grew w w') : AcIn w' lits vs A1 A2 n1 n2 p := ⟨h.l.grew hg, h.v.grew hg, h.hn1, h.hn2, h.few, h.heads, h.hp, h.env.grew hg⟩
theorem AcIn.al (h : AcIn w lits vs A1 A2 n1 n2 p) {o : Op7.Ins} (ho : Op7.valid o) : AlIn w lits vs A1 A2 n1 n2 p o.a o.b := by
  have hw := Op7.wid_le o.code
  have e1 : ((256 : Int) ^ (Op7.wid o.code).1) ≤ 256 ^ 2 := by
    rcases (by omega : (Op7.wid o.code).1 = 0 ∨ (Op7.wid o.code).1 = 1 ∨ (Op7.wid o.code).1 = 2) with e | e | e <;> rw [e] <;> decide
  have hv := valid_fit ho
  obtain ⟨_, ⟨a0, a1⟩, _⟩ := ho
  exact ⟨h.l, h.v, h.hn1, h.hn2, h.few, h.heads, h.hp, ⟨a0, by omega⟩, ⟨hv.2.1, by omega⟩, h.env.mx⟩
set_option maxRecDepth 100000 in
set_option maxHeartbeats 2000000 in
theorem allowsCode_c (h : AcIn w lits vs A1 A2 n1 n2 p) (v : PV) (hv : vs[p]? = some v) (b : Bool) (hb : b = true ↔ Mt.CodeOk ⟨sel, lits, vs.map (·.p)⟩ p v.p.code vars classes) :
    Calls Tryz.prog 79 #[.agg #[.slice A1 n1 c1, .slice A2 n2 c2, .int .i64 vars, .int .i64 classes], .int .i64 ((p : Nat) : Int)] w fun e w' => e = .returned (.bool b) ∧ Grew w w' := by
  obtain ⟨W, hW⟩ : ∃ W, W = (w.alloc (.cells (scCells A1 n1 c1 A2 n2 c2 vars classes) 141)).alloc (.cells #[.int .i64 ((p : Nat) : Int)] 3) := ⟨_, rfl⟩
  have hg1 : Grew w W := by rw [hW]; exact ((Grew.refl w).alloc _).alloc _
  have hs : Blk W w.heap.size 141 (scCells A1 n1 c1 A2 n2 c2 vars classes) := by
    rw [hW]; exact (Blk.new w 141 _).grew ((Grew.refl _).alloc _)
  have hp : Blk W (w.heap.size + 1) 3 #[.int .i64 ((p : Nat) : Int)] := by
    have := Blk.new (w.alloc (.cells (scCells A1 n1 c1 A2 n2 c2 vars classes) 141)) 3 #[.int .i64 ((p : Nat) : Int)]
    rw [World.size_alloc] at this
    rw [hW]; exact this
  obtain ⟨ad, v', rfl, hv', _, _, _, q3, _⟩ := pv_at h.v hg1 (i := p) (by have := h.hp; have := h.hn2; omega)
  rw [hv] at hv'
  obtain rfl := Option.some.inj hv'
  have hvo := (h.v.1 v (List.mem_of_getElem? hv)).grew hg1
  have harg : Arg W v.A v.c v.p.code := ⟨hvo.1, h.env.tab.grew hg1, hvo.2.1, hvo.2.2.1⟩
  have f2 : ((p : Nat) : Int) < (n2 : Int) := by have := h.hp; omega
  have HArg := hid harg
  have HH := hid (h.grew hg1)
  have HS := hid hs
  have HP := hid hp
  have HG1 := hid hg1
  unfold scCells at hW
  clear h hv hv' hvo harg hs hp hg1
  rcases well_or_bad v.p.code with ⟨l, os, G, D, hwell⟩ | ⟨k, hbad⟩
  · have HC := hid (check_ok HArg.out hwell)
    have HD := hid (fun (w' : World) (hg : Grew W w') => odecode_c v.A v.c v.p.code w' (HArg.out.at_.grew hg) (HArg.out.tab.grew hg) HArg.out.cap HArg.out.max)
    have hdec := hwell.dec
    have HB : Hid (b = l.all (fun o => Mt.fits ⟨sel, lits, vs.map (·.p)⟩ p o vars classes)) := hid (by
      rw [Bool.eq_iff_iff, hb]
      constructor
      · rintro ⟨l', os', G', D', h1, h2⟩
        obtain ⟨rfl, _⟩ := hwell.uniq h1
        exact h2
      · exact fun h2 => ⟨l, os, G, D, hwell, h2⟩)
    have hval := (decR_ok HArg.out.at_.1 hdec).2.1
    have HVal := hid hval
    have hlen := (hwell.few HArg.out.at_.1).2
    rw [hdec] at HD
    generalize v.p.code.length = cl at *
    clear hb hwell hdec hval
    subst hW
    go_enter Tryz.func79, Tryz.ntmps79
    go_wp2_with fail
    refine HC.out.mono ?_
    rintro e w2 ⟨rfl, hg2⟩
    have HG2 := hid hg2
    clear hg2
    go_wp2_with fail
    refine (HD.out _ HG2.out).mono ?_
    rintro e w3 ⟨B1, d1, B2, d2, L, rfl, hL, hI, _, hg3⟩
    simp only at hL
    subst hL
    rw [show errVal 0 = .nilIface from rfl]
    have HG3 := hid (HG2.out.trans hg3)
    have HI := hid hI
    have HAny := hid (anyOp_c 107 #[.pointer (some ⟨w.heap.size, 0, none⟩), .pointer (some ⟨w.heap.size + 1, 0, none⟩)] (enters_of Tryz.func107 (by kernel_rfl) rfl) (fun o => !(Mt.fits ⟨sel, lits, vs.map (·.p)⟩ p o vars classes)) B1 d1 L w3 (RowI.ops hI) (by omega) (fun o ho W hg => by
      have hgW := HG3.out.trans hg
      exact notAllowed_c (sel := sel) ((HH.out.grew hgW).al (HVal.out o ho)) o.code _ _ (HS.out.grew hgW) (HP.out.grew hgW) _ rfl))
    have HBn : Hid (b = !(L.any fun o => !(Mt.fits ⟨sel, lits, vs.map (·.p)⟩ p o vars classes))) := hid (by
      rw [HB.out, List.not_any_eq_all_not]
      simp)
    generalize (L.any fun o => !(Mt.fits ⟨sel, lits, vs.map (·.p)⟩ p o vars classes)) = q at *
    generalize L.length = ln at *
    clear hI hg3 HB HS HP HH HVal HD HC
    go_wp2_with fail
    refine HAny.out.mono ?_
    rintro e w4 ⟨rfl, hg4⟩
    go_wp2_with fail
    go_ret
    refine ⟨?_, HG1.out.trans (HG3.out.trans hg4)⟩
    rw [HBn.out]
    rfl
  · have HC := hid (check_bad HArg.out hbad)
    have hbf : b = false := by
      cases b
      · rfl
      · obtain ⟨l, os, G, D, h1, _⟩ := hb.1 rfl
        exact (hbad.not_well h1).elim
    subst hbf
    generalize v.p.code.length = cl at *
    clear hb hbad
    subst hW
    go_enter Tryz.func79, Tryz.ntmps79
    go_wp2_with fail
    refine HC.out.mono ?_
    rintro e w2 ⟨rfl, hg2⟩
    go_wp2_with fail
    go_ret
    exact ⟨rfl, HG1.out.trans hg2⟩
end
end Go.Proofs.YtjladeiecokpfaaGreatDoor
namespace Go.Proofs.YtjladeiecokpfaaGreatDoor
open Go.RowKit

def ckVal (b : Bool) : Value := if b then .nilIface else .iface 75 (.int .i64 8)
theorem mv_cells {w w' : World} {v : MV} {g : Nat} (h : Blk w g 55 (mvCells v)) (hg : Grew w w') : w'.cell? ⟨g, 0, none⟩ = some (.string v.sel) ∧ w'.cell? ⟨g, 1, none⟩ = some (.slice v.A1 v.lits.length v.c1) ∧ w'.cell? ⟨g, 2, none⟩ = some (.slice v.A2 v.vs.length v.c2) :=
  ⟨(h.grew hg).cell 0, (h.grew hg).cell 1, (h.grew hg).cell 2⟩
theorem sc_cells {w w' : World} {A1 A2 : Option Addr} {n1 n2 c1 c2 : Nat} {vars classes : Int} {g : Nat} (h : Blk w g 141 (scCells A1 n1 c1 A2 n2 c2 vars classes)) (hg : Grew w w') : w'.cell? ⟨g, 0, none⟩ = some (.slice A1 n1 c1) ∧ w'.cell? ⟨g, 1, none⟩ = some (.slice A2 n2 c2) ∧ w'.cell? ⟨g, 2, none⟩ = some (.int .i64 vars) ∧ w'.cell? ⟨g, 3, none⟩ = some (.int .i64 classes) :=
  ⟨(h.grew hg).cell 0, (h.grew hg).cell 1, (h.grew hg).cell 2, (h.grew hg).cell 3⟩
/-- The code of the first parts is as it should be. -/
def CodesTo (m : Mt.Meth) (l : List PV) (i : Nat) (vars classes : Int) : Prop := ∀ j v, j < i → l[j]? = some v → Mt.CodeOk m j v.p.code vars classes
theorem all_lits {l : List Mt.Lit} : l.all litB = true ↔ ∀ x ∈ l, Mt.LitOk x := by
  rw [List.all_eq_true]
  exact ⟨fun h x hx => (litB_iff x).1 (h x hx), fun h x hx => (litB_iff x).2 (h x hx)⟩
set_option maxRecDepth 100000 in
set_option maxHeartbeats 4000000 in
theorem check9_c (v : MV) (vars classes : Int) (b : Bool) (hb : b = true ↔ Mt.May v.m vars classes) (w : World) (h : MethAt w v) (hE : Env w) :
    Calls Tryz.prog 58 #[.agg (mvCells v), .int .i64 vars, .int .i64 classes] w fun e w' => e = .returned (ckVal b) ∧ Grew w w' := by
  obtain ⟨W, hW⟩ : ∃ W, W = w.alloc (.cells (mvCells v) 55) := ⟨_, rfl⟩
  have hg1 : Grew w W := by rw [hW]; exact (Grew.refl w).alloc _
  have hbk : Blk W w.heap.size 55 (mvCells v) := by rw [hW]; exact Blk.new w _ _
  have HG1 := hid hg1
  have HBk := hid hbk
  have HM := hid (h.grew hg1)
  have HE := hid (hE.grew hg1)
  have HA := hid (arity_c v.sel W (hE.grew hg1).mx)
  have HL := hid (fun (w' : World) (hg : Grew W w') => areLits_c v.A1 v.c1 v.lits w' (HM.out.lits.grew hg) (by have := h.l1; omega) (HE.out.grew hg).mx)
  have HP := hid (fun (w' : World) (hg : Grew W w') => areParts_c v.A2 v.c2 v.vs (tru (Mt.PartsOk (v.vs.map (·.p)))) (tru_iff _) w' (HM.out.parts.grew hg) h.l2)
  have HMay : Hid (Mt.May v.m vars classes → (Mt.arity (Lg.bytes v.sel)).isSome = true ∧ (decide (v.lits.length ≤ 64) && v.lits.all litB) = true ∧ tru (Mt.PartsOk (v.vs.map (·.p))) = true) := hid (fun hm => by
    refine ⟨hm.sel, ?_, (tru_iff _).2 hm.parts⟩
    rw [Bool.and_eq_true, decide_eq_true_iff]
    exact ⟨hm.few, all_lits.2 hm.lits⟩)
  have HMk : Hid (∀ n, Mt.arity (Lg.bytes v.sel) = some n → (decide (v.lits.length ≤ 64) && v.lits.all litB) = true → tru (Mt.PartsOk (v.vs.map (·.p))) = true → (v.vs[0]?).map (·.p.args) = some ((n : Nat) : Int) → CodesTo v.m v.vs v.vs.length vars classes → Mt.May v.m vars classes) := hid (fun n h1 h2 h3 h4 h5 => by
    rw [Bool.and_eq_true, decide_eq_true_iff] at h2
    refine ⟨?_, h2.1, all_lits.1 h2.2, (tru_iff _).1 h3, ?_, ?_⟩
    · show (Mt.arity (Lg.bytes v.sel)).isSome = true
      rw [h1]; rfl
    · show ((v.vs.map (·.p))[0]?).map (·.args) = (Mt.arity (Lg.bytes v.sel)).map (fun n => (n : Int))
      rw [h1, List.getElem?_map, Option.map_map]
      exact h4
    · intro i p hp
      have hp' : (v.vs.map (·.p))[i]? = some p := hp
      rw [List.getElem?_map] at hp'
      obtain ⟨x, hx, rfl⟩ := Option.map_eq_some_iff.1 hp'
      exact h5 i x (List.getElem?_eq_some_iff.1 hx).1 hx)
  have HArg : Hid (∀ n, Mt.arity (Lg.bytes v.sel) = some n → Mt.May v.m vars classes → (v.vs[0]?).map (·.p.args) = some ((n : Nat) : Int)) := hid (fun n hn hm => by
    have h1 : ((v.vs.map (·.p))[0]?).map (·.args) = (Mt.arity (Lg.bytes v.sel)).map (fun n => (n : Int)) := hm.args
    rw [hn, List.getElem?_map, Option.map_map] at h1
    exact h1)
  have HCd : Hid (Mt.May v.m vars classes → CodesTo v.m v.vs v.vs.length vars classes) := hid (fun hm j x hj hx => hm.code j x.p (by
    show (v.vs.map (·.p))[j]? = some x.p
    rw [List.getElem?_map, hx]; rfl))
  have HB := hid hb
  clear hb hE h
  generalize Mt.arity (Lg.bytes v.sel) = r at *
  generalize (decide (v.lits.length ≤ 64) && v.lits.all litB) = bl at *
  obtain ⟨bp, hbp⟩ : ∃ bp, bp = tru (Mt.PartsOk (v.vs.map (·.p))) := ⟨_, rfl⟩
  rw [← hbp] at HP HMay HMk
  have HBp := hid hbp
  clear hbp hbk hg1
  cases r with
  | none =>
    have hbf : b = false := by
      cases hbb : b
      · rfl
      · have := (HMay.out (HB.out.1 hbb)).1; cases this
    subst hbf
    unfold mvCells at hW ⊢
    clear HL HP
    subst hW
    go_enter Tryz.func58, Tryz.ntmps58
    go_wp2_with fail
    refine HA.out.mono ?_
    rintro e w2 ⟨rfl, hg2⟩
    have HG2 := hid (HG1.out.trans hg2)
    clear hg2
    go_wp2_with fail
    go_ret
    exact ⟨rfl, HG2.out⟩
  | some na =>
    have HNa := hid (HArg.out na rfl)
    replace HMk := hid (HMk.out na rfl)
    clear HArg
    cases bl
    · have hbf : b = false := by
        cases hbb : b
        · rfl
        · have := (HMay.out (HB.out.1 hbb)).2.1; cases this
      subst hbf
      unfold mvCells at hW ⊢
      subst hW
      go_enter Tryz.func58, Tryz.ntmps58
      go_wp2_with fail
      refine HA.out.mono ?_
      rintro e w2 ⟨rfl, hg2⟩
      have HG2 := hid hg2
      obtain ⟨_, c1, c2⟩ := mv_cells HBk.out hg2
      clear hg2
      go_wp2_with fail
      refine (HL.out _ HG2.out).mono ?_
      rintro e w3 ⟨rfl, hg3⟩
      have HG3 := hid (HG2.out.trans hg3)
      obtain ⟨_, d1, d2⟩ := mv_cells HBk.out HG3.out
      clear hg3 c1 c2
      go_wp2_with fail
      go_ret
      exact ⟨rfl, HG1.out.trans HG3.out⟩
    · cases bp
      · have hbf : b = false := by
          cases hbb : b
          · rfl
          · have := (HMay.out (HB.out.1 hbb)).2.2; cases this
        subst hbf
        unfold mvCells at hW ⊢
        subst hW
        go_enter Tryz.func58, Tryz.ntmps58
        go_wp2_with fail
        refine HA.out.mono ?_
        rintro e w2 ⟨rfl, hg2⟩
        have HG2 := hid hg2
        obtain ⟨_, c1, c2⟩ := mv_cells HBk.out hg2
        clear hg2
        go_wp2_with fail
        refine (HL.out _ HG2.out).mono ?_
        rintro e w3 ⟨rfl, hg3⟩
        have HG3 := hid (HG2.out.trans hg3)
        obtain ⟨_, d1, d2⟩ := mv_cells HBk.out HG3.out
        clear hg3 c1 c2
        go_wp2_with fail
        refine (HP.out _ HG3.out).mono ?_
        rintro e w4 ⟨rfl, hg4⟩
        have HG4 := hid (HG3.out.trans hg4)
        obtain ⟨_, e1, e2⟩ := mv_cells HBk.out HG4.out
        clear hg4 d1 d2
        go_wp2_with fail
        go_ret
        exact ⟨rfl, HG1.out.trans HG4.out⟩
      · have hpok := (tru_iff _).1 HBp.out.symm
        obtain ⟨hp1, hp2, hp3⟩ := hpok
        rw [List.length_map] at hp1 hp2
        obtain ⟨v0, hv0⟩ : ∃ v0, v.vs[0]? = some v0 := ⟨_, List.getElem?_eq_getElem (show 0 < v.vs.length by omega)⟩
        have HV0 := hid hv0
        have HP3 := hid hp3
        have HP1 := hid hp1
        have f0 : (0 : Int) < (v.vs.length : Int) := by omega
        rw [hv0] at HNa HMk
        by_cases hna : v0.p.args = ((na : Nat) : Int)
        · have HMk2 := hid (HMk.out rfl rfl (by rw [← hna]; rfl))
          have HN := hid hna
          have fne : (v0.p.args != ((na : Nat) : Int)) = false := by rw [hna]; simp
          clear hv0 hp3 hp1 hna HMk HNa HMay
          unfold mvCells at hW ⊢
          subst hW
          go_enter Tryz.func58, Tryz.ntmps58
          go_wp2_with fail
          refine HA.out.mono ?_
          rintro e w2 ⟨rfl, hg2⟩
          have HG2 := hid hg2
          obtain ⟨_, c1, c2⟩ := mv_cells HBk.out hg2
          clear hg2
          go_wp2_with fail
          refine (HL.out _ HG2.out).mono ?_
          rintro e w3 ⟨rfl, hg3⟩
          have HG3 := hid (HG2.out.trans hg3)
          obtain ⟨_, d1, d2⟩ := mv_cells HBk.out HG3.out
          clear hg3 c1 c2
          go_wp2_with fail
          refine (HP.out _ HG3.out).mono ?_
          rintro e w4 ⟨rfl, hg4⟩
          have HG4 := hid (HG3.out.trans hg4)
          obtain ⟨_, e1, e2⟩ := mv_cells HBk.out HG4.out
          clear hg4 d1 d2
          obtain ⟨ad, x, hA, hx, _, q1, _, _, _⟩ := pv_at HM.out.parts HG4.out (i := 0) HP1.out
          rw [HV0.out] at hx
          obtain rfl := Option.some.inj hx
          rw [hA] at e2
          rw [Nat.zero_mul, add_zero] at q1
          have hs := Blk.new w4 141 (scCells v.A1 v.lits.length v.c1 (some ad) v.vs.length v.c2 vars classes)
          have HS := hid hs
          have HG5 := hid (HG4.out.alloc (.cells (scCells v.A1 v.lits.length v.c1 (some ad) v.vs.length v.c2 vars classes) 141))
          have HLt : Hid (v.vs.length ≤ 100) := hid HM.out.l2
          have HPa := hid (fun (w' : World) (hg : Grew _ w') => show PartsAt w' (some ad) v.vs by have h1 := HM.out.parts.grew hg; rw [hA] at h1; exact h1)
          have HLi := hid HM.out.lits
          clear hx hs
          unfold scCells at HG5
          obtain ⟨_, _, e3⟩ := mv_cells HBk.out HG5.out
          rw [hA] at e3
          go_wp2_with fail
          have HS2 : Hid (Blk (w4.alloc (.cells #[.slice v.A1 v.lits.length v.c1, .slice (some ad) v.vs.length v.c2, .int .i64 vars, .int .i64 classes] 141)) w4.heap.size 141 (scCells v.A1 v.lits.length v.c1 (some ad) v.vs.length v.c2 vars classes)) := HS
          clear q1 e1 e2 e3 HS
          generalize w4.alloc (.cells #[.slice v.A1 v.lits.length v.c1, .slice (some ad) v.vs.length v.c2, .int .i64 vars, .int .i64 classes] 141) = w5 at *
          obtain ⟨n2, en2⟩ : ∃ n2, n2 = v.vs.length := ⟨_, rfl⟩
          have HN2 := hid en2
          rw [← en2] at HS2 ⊢
          have hn2 : n2 ≤ 100 := by rw [en2]; exact HLt.out
          clear en2 f0
          go_loopw [10, 51] (fun _ s51 wr => ∃ i : Nat, s51 = .int .i64 ((i : Nat) : Int) ∧ i ≤ n2 ∧ Grew w5 wr ∧ Hid (CodesTo v.m v.vs i vars classes)) (fun _ s51 _ => n2 - (intOf s51).toNat)
          case atStart => exact ⟨0, rfl, Nat.zero_le _, Grew.refl _, hid (fun j x hj => by omega)⟩
          case round =>
            obtain ⟨i, rfl, hi, hg, HI⟩ := hrel
            have HG := hid hg
            obtain ⟨s0, s1, s2, s3⟩ := sc_cells HS2.out hg
            clear hg
            by_cases hlt : i < n2
            · have f1 : (i : Int) < n2 := by omega
              obtain ⟨x, hx⟩ : ∃ x, v.vs[i]? = some x := ⟨_, List.getElem?_eq_getElem (show i < v.vs.length by rw [← HN2.out]; exact hlt)⟩
              have hgw := HG5.out.trans HG.out
              have HAc := hid (allowsCode_c (sel := v.sel) (vars := vars) (classes := classes) (c1 := v.c1) (c2 := v.c2) (p := i) (⟨HLi.out.grew hgw, HPa.out wr hgw, rfl, HN2.out, hn2, HP3.out, hlt, HE.out.grew hgw⟩ : AcIn wr v.lits v.vs v.A1 (some ad) v.lits.length n2 i) x hx (tru (Mt.CodeOk v.m i x.p.code vars classes)) (tru_iff _))
              have HX : Hid (tru (Mt.CodeOk v.m i x.p.code vars classes) = false → b = false) := hid (fun hf => by
                cases hbb : b
                · rfl
                · have h1 := HCd.out (HB.out.1 hbb) i x (by rw [← HN2.out]; exact hlt) hx
                  rw [(tru_iff _).2 h1] at hf
                  cases hf)
              have HY : Hid (tru (Mt.CodeOk v.m i x.p.code vars classes) = true → CodesTo v.m v.vs (i + 1) vars classes) := hid (fun hf j y hj hy => by
                rcases Nat.lt_or_ge j i with h1 | h1
                · exact HI.out j y h1 hy
                · obtain rfl : j = i := by omega
                  rw [hx] at hy
                  obtain rfl := Option.some.inj hy
                  exact (tru_iff _).1 hf)
              generalize tru (Mt.CodeOk v.m i x.p.code vars classes) = q at *
              clear hx hgw
              cases q
              · have hbf := HX.out rfl
                subst hbf
                go_wp2_with fail
                refine HAc.out.mono ?_
                rintro e w6 ⟨rfl, hg6⟩
                go_wp2_with fail
                go_ret
                exact ⟨rfl, HG1.out.trans (HG5.out.trans (HG.out.trans hg6))⟩
              · replace HY := hid (HY.out rfl)
                go_wp2_with fail
                refine HAc.out.mono ?_
                rintro e w6 ⟨rfl, hg6⟩
                go_wp2_with fail
                go_round
                case rel => exact ⟨i + 1, by go_num, by omega, HG.out.trans hg6, HY⟩
                case measure => simp [intOf]; omega
            · have hin : i = n2 := by omega
              subst hin
              have hbt : b = true := HB.out.2 (HMk2.out (by have := HI.out; rwa [HN2.out] at this))
              subst hbt
              go_wp2_with fail
              go_ret
              exact ⟨rfl, HG1.out.trans (HG5.out.trans HG.out)⟩
        · have hbf : b = false := by
            cases hbb : b
            · rfl
            · exact absurd (Option.some.inj (HNa.out (HB.out.1 hbb))) hna
          subst hbf
          have fne : (v0.p.args != ((na : Nat) : Int)) = true := by rw [bne_iff_ne]; exact hna
          clear hv0 hp3 hp1 hna HMk HNa HMay
          unfold mvCells at hW ⊢
          subst hW
          go_enter Tryz.func58, Tryz.ntmps58
          go_wp2_with fail
          refine HA.out.mono ?_
          rintro e w2 ⟨rfl, hg2⟩
          have HG2 := hid hg2
          obtain ⟨_, c1, c2⟩ := mv_cells HBk.out hg2
          clear hg2
          go_wp2_with fail
          refine (HL.out _ HG2.out).mono ?_
          rintro e w3 ⟨rfl, hg3⟩
          have HG3 := hid (HG2.out.trans hg3)
          obtain ⟨_, d1, d2⟩ := mv_cells HBk.out HG3.out
          clear hg3 c1 c2
          go_wp2_with fail
          refine (HP.out _ HG3.out).mono ?_
          rintro e w4 ⟨rfl, hg4⟩
          have HG4 := hid (HG3.out.trans hg4)
          obtain ⟨_, e1, e2⟩ := mv_cells HBk.out HG4.out
          clear hg4 d1 d2
          obtain ⟨ad, x, hA, hx, _, q1, _, _, _⟩ := pv_at HM.out.parts HG4.out (i := 0) HP1.out
          rw [HV0.out] at hx
          obtain rfl := Option.some.inj hx
          rw [hA] at e2
          rw [Nat.zero_mul, add_zero] at q1
          clear hx
          go_wp2_with fail
          go_ret
          exact ⟨rfl, HG1.out.trans HG4.out⟩
end Go.Proofs.YtjladeiecokpfaaGreatDoor

/- Stage 9: allowsCode, Check. -/
import Derived.Test.YtjdgcgpidhljpaaGreatDoorMtI
namespace Go.Proofs.YtjdgcgpidhljpaaGreatDoor
open Go.RowKit

/-- What lies about: the table of instructions, the library's own number. -/
structure Env (w : World) : Prop where
  tab : TabAt w
  mx : MaxAt w
theorem Env.grew {w w' : World} (h : Env w) (hg : Grew w w') : Env w' := ⟨h.tab.grew hg, h.mx.grew hg⟩
section
variable {lits : List Mt.Lit} {vs : List PV} {A1 A2 : Option Addr} {n1 n2 c1 c2 : Nat} {vars classes : Int} {p : Nat} {oa ob : Int} {w : World} {sel : ByteArray}
theorem AlIn.grew {w' : World} (h : AlIn w lits vs A1 A2 n1 n2 p oa ob) (hg : Grew w w') : AlIn w' lits vs A1 A2 n1 n2 p oa ob := ⟨h.l.grew hg, h.v.grew hg, h.hn1, h.hn2, h.few, h.heads, h.hp, h.ha, h.hb, h.mx.grew hg⟩
def scCells (A1 : Option Addr) (n1 c1 : Nat) (A2 : Option Addr) (n2 c2 : Nat) (vars classes : Int) : Array Value := #[.slice A1 n1 c1, .slice A2 n2 c2, .int .i64 vars, .int .i64 classes]
set_option maxRecDepth 100000 in
set_option maxHeartbeats 1000000 in
theorem notAllowed_c (h : AlIn w lits vs A1 A2 n1 n2 p oa ob) (cd : Nat) (gs gp : Nat) (hs : Blk w gs 68 (scCells A1 n1 c1 A2 n2 c2 vars classes)) (hp : Blk w gp 3 #[.int .i64 ((p : Nat) : Int)]) (b : Bool) (hb : b = Mt.fits ⟨sel, lits, vs.map (·.p)⟩ p ⟨cd, oa, ob⟩ vars classes) :
    Calls Tryz.prog 57 #[.agg #[.int .u8 ((cd : Nat) : Int), .int .i64 oa, .int .i64 ob], .pointer (some ⟨gs, 0, none⟩), .pointer (some ⟨gp, 0, none⟩)] w fun e w' => e = .returned (.bool (!b)) ∧ Grew w w' := by
  have HG := hid ((Grew.refl w).alloc (.cells #[.int .u8 ((cd : Nat) : Int), .int .i64 oa, .int .i64 ob] 119))
  have HA : Hid (Al _ A1 n1 c1 A2 n2 c2 vars classes p cd oa ob b) := hid (by rw [hb]; exact allows_c (sel := sel) (h.grew HG.out) cd)
  have s0 := (hs.grew HG.out).cell 0
  have s1 := (hs.grew HG.out).cell 1
  have s2 := (hs.grew HG.out).cell 2
  have s3 := (hs.grew HG.out).cell 3
  have p0 := (hp.grew HG.out).cell 0
  simp only [scCells, List.getElem?_toArray, List.getElem?_cons_zero, List.getElem?_cons_succ] at s0 s1 s2 s3 p0
  clear h hs hp hb
  go_enter Tryz.func57, Tryz.ntmps57
  go_wp2_with fail
  refine Calls.mono HA.out ?_
  rintro e w1 ⟨rfl, hg⟩
  go_wp2_with fail
  go_ret
  exact ⟨rfl, HG.out.trans hg⟩
/-- What 'allowsCode' is called in. -/
structure AcIn (w : World) (lits : List Mt.Lit) (vs : List PV) (A1 A2 : Option Addr) (n1 n2 p : Nat) : Prop where
  l : LitsAt w A1 lits
  v : PartsAt w A2 vs
  hn1 : n1 = lits.length
  hn2 : n2 = vs.length
  few : n2 ≤ 100
  heads : Mt.HeadsOk (vs.map (·.p))
  hp : p < n2
  env : Env w
theorem AcIn.grew {w' : World} (h : AcIn w lits vs A1 A2 n1 n2 p) (hg : Grew w w') : AcIn w' lits vs A1 A2 n1 n2 p := ⟨h.l.grew hg, h.v.grew hg, h.hn1, h.hn2, h.few, h.heads, h.hp, h.env.grew hg⟩
theorem AcIn.al (h : AcIn w lits vs A1 A2 n1 n2 p) {o : Op7.Ins} (ho : Op7.valid o) : AlIn w lits vs A1 A2 n1 n2 p o.a o.b := by
  have hw := Op7.wid_le o.code
  have e1 : ((256 : Int) ^ (Op7.wid o.code).1) ≤ 256 ^ 2 := by
    rcases (by omega : (Op7.wid o.code).1 = 0 ∨ (Op7.wid o.code).1 = 1 ∨ (Op7.wid o.code).1 = 2) with e | e | e <;> rw [e] <;> decide
  have hv := valid_fit ho
  obtain ⟨_, ⟨a0, a1⟩, _⟩ := ho
  exact ⟨h.l, h.v, h.hn1, h.hn2, h.few, h.heads, h.hp, ⟨a0, by omega⟩, ⟨hv.2.1, by omega⟩, h.env.mx⟩
set_option maxRecDepth 100000 in
set_option maxHeartbeats 2000000 in
theorem allowsCode_c (h : AcIn w lits vs A1 A2 n1 n2 p) (v : PV) (hv : vs[p]? = some v) (b : Bool) (hb : b = true ↔ Mt.CodeOk ⟨sel, lits, vs.map (·.p)⟩ p v.p.code vars classes) :
    Calls Tryz.prog 23 #[.agg #[.slice A1 n1 c1, .slice A2 n2 c2, .int .i64 vars, .int .i64 classes], .int .i64 ((p : Nat) : Int)] w fun e w' => e = .returned (.bool b) ∧ Grew w w' := by
  obtain ⟨W, hW⟩ : ∃ W, W = (w.alloc (.cells (scCells A1 n1 c1 A2 n2 c2 vars classes) 68)).alloc (.cells #[.int .i64 ((p : Nat) : Int)] 3) := ⟨_, rfl⟩
  have hg1 : Grew w W := by rw [hW]; exact ((Grew.refl w).alloc _).alloc _
  have hs : Blk W w.heap.size 68 (scCells A1 n1 c1 A2 n2 c2 vars classes) := by
    rw [hW]; exact (Blk.new w 68 _).grew ((Grew.refl _).alloc _)
  have hp : Blk W (w.heap.size + 1) 3 #[.int .i64 ((p : Nat) : Int)] := by
    have := Blk.new (w.alloc (.cells (scCells A1 n1 c1 A2 n2 c2 vars classes) 68)) 3 #[.int .i64 ((p : Nat) : Int)]
    rw [World.size_alloc] at this
    rw [hW]; exact this
  obtain ⟨ad, v', rfl, hv', _, _, _, q3, _⟩ := pv_at h.v hg1 (i := p) (by have := h.hp; have := h.hn2; omega)
  rw [hv] at hv'
  obtain rfl := Option.some.inj hv'
  have hvo := (h.v.1 v (List.mem_of_getElem? hv)).grew hg1
  have harg : Arg W v.A v.c v.p.code := ⟨hvo.1, h.env.tab.grew hg1, hvo.2.1, hvo.2.2.1⟩
  have f2 : ((p : Nat) : Int) < (n2 : Int) := by have := h.hp; omega
  have HArg := hid harg
  have HH := hid (h.grew hg1)
  have HS := hid hs
  have HP := hid hp
  have HG1 := hid hg1
  unfold scCells at hW
  clear h hv hv' hvo harg hs hp hg1
  rcases well_or_bad v.p.code with ⟨l, os, G, D, hwell⟩ | ⟨k, hbad⟩
  · have HC := hid (check_ok HArg.out hwell)
    have HD := hid (fun (w' : World) (hg : Grew W w') => odecode_c v.A v.c v.p.code w' (HArg.out.at_.grew hg) (HArg.out.tab.grew hg) HArg.out.cap HArg.out.max)
    have hdec := hwell.dec
    have HB : Hid (b = l.all (fun o => Mt.fits ⟨sel, lits, vs.map (·.p)⟩ p o vars classes)) := hid (by
      rw [Bool.eq_iff_iff, hb]
      constructor
      · rintro ⟨l', os', G', D', h1, h2⟩
        obtain ⟨rfl, _⟩ := hwell.uniq h1
        exact h2
      · exact fun h2 => ⟨l, os, G, D, hwell, h2⟩)
    have hval := (decR_ok HArg.out.at_.1 hdec).2.1
    have HVal := hid hval
    have hlen := (hwell.few HArg.out.at_.1).2
    rw [hdec] at HD
    generalize v.p.code.length = cl at *
    clear hb hwell hdec hval
    subst hW
    go_enter Tryz.func23, Tryz.ntmps23
    go_wp2_with fail
    refine HC.out.mono ?_
    rintro e w2 ⟨rfl, hg2⟩
    have HG2 := hid hg2
    clear hg2
    go_wp2_with fail
    refine (HD.out _ HG2.out).mono ?_
    rintro e w3 ⟨B1, d1, B2, d2, L, rfl, hL, hI, _, hg3⟩
    simp only at hL
    subst hL
    rw [show errVal 0 = .nilIface from rfl]
    have HG3 := hid (HG2.out.trans hg3)
    have HI := hid hI
    have HAny := hid (anyOp_c 57 #[.pointer (some ⟨w.heap.size, 0, none⟩), .pointer (some ⟨w.heap.size + 1, 0, none⟩)] (enters_of Tryz.func57 (by kernel_rfl) rfl) (fun o => !(Mt.fits ⟨sel, lits, vs.map (·.p)⟩ p o vars classes)) B1 d1 L w3 (RowI.ops hI) (by omega) (fun o ho W hg => by
      have hgW := HG3.out.trans hg
      exact notAllowed_c (sel := sel) ((HH.out.grew hgW).al (HVal.out o ho)) o.code _ _ (HS.out.grew hgW) (HP.out.grew hgW) _ rfl))
    have HBn : Hid (b = !(L.any fun o => !(Mt.fits ⟨sel, lits, vs.map (·.p)⟩ p o vars classes))) := hid (by
      rw [HB.out, List.not_any_eq_all_not]
      simp)
    generalize (L.any fun o => !(Mt.fits ⟨sel, lits, vs.map (·.p)⟩ p o vars classes)) = q at *
    generalize L.length = ln at *
    clear hI hg3 HB HS HP HH HVal HD HC
    go_wp2_with fail
    refine HAny.out.mono ?_
    rintro e w4 ⟨rfl, hg4⟩
    go_wp2_with fail
    go_ret
    refine ⟨?_, HG1.out.trans (HG3.out.trans hg4)⟩
    rw [HBn.out]
    rfl
  · have HC := hid (check_bad HArg.out hbad)
    have hbf : b = false := by
      cases b
      · rfl
      · obtain ⟨l, os, G, D, h1, _⟩ := hb.1 rfl
        exact (hbad.not_well h1).elim
    subst hbf
    generalize v.p.code.length = cl at *
    clear hb hbad
    subst hW
    go_enter Tryz.func23, Tryz.ntmps23
    go_wp2_with fail
    refine HC.out.mono ?_
    rintro e w2 ⟨rfl, hg2⟩
    go_wp2_with fail
    go_ret
    exact ⟨rfl, HG1.out.trans hg2⟩
end
end Go.Proofs.YtjdgcgpidhljpaaGreatDoor

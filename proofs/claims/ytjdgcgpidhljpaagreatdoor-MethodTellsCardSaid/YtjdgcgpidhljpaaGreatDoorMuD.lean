/- Stage 9, the document's own: lit, May. Written by tools/gen_mud.py. -/
import Derived.Test.YtjdgcgpidhljpaaGreatDoorMuC
import Derived.Test.YtjdgcgpidhljpaaGreatDoorYRc
import Derived.Test.YtjdgcgpidhljpaaGreatDoorYRfB
namespace Go.Proofs.YtjdgcgpidhljpaaGreatDoor
open Go.RowKit

set_option maxRecDepth 100000 in
set_option maxHeartbeats 1000000 in
theorem rlit_c (x : Mt.Lit) (b : Bool) (hb : b = true ↔ Mt.LitOk x) (w : World) (hx : x.s.size ≤ 2000) :
    Calls Tryz.prog 37 #[.agg #[.int .u8 ((x.k : Nat) : Int), .string x.s]] w fun e w' => e = .returned (.bool b) ∧ Grew w w' := by
  obtain ⟨k, s⟩ := x
  simp only at hb hx ⊢
  have HG := hid ((Grew.refl w).alloc (.cells #[.int .u8 ((k : Nat) : Int), .string s] 59))
  by_cases h0 : k = 0
  · subst h0
    have HB : Hid (b = true ↔ Mt.Numeral s) := hid (by
      rw [hb]
      constructor
      · rintro (⟨_, h⟩ | ⟨h, _⟩ | ⟨h, _⟩)
        · exact h
        · cases h
        · cases h
      · exact fun h => .inl ⟨rfl, h⟩)
    have HP := hid (rparse_c s (w.alloc (.cells #[.int .u8 0, .string s] 59)) (by omega))
    rw [show (((0 : Nat) : Nat) : Int) = 0 from rfl] at HG ⊢
    clear hb hx
    go_enter Tryz.func37, Tryz.ntmps37
    go_wp2_with fail
    refine HP.out.mono ?_
    rintro e w1 ⟨A', c', ng, L, j, rfl, _, hpo, hg⟩
    have HG1 := hid (HG.out.trans hg)
    by_cases hj : j = 0
    · subst hj
      have hbt : b = true := HB.out.2 ⟨ng, L, hpo⟩
      subst hbt
      clear hpo hg
      go_wp2_with fail
      go_ret
      exact ⟨rfl, HG1.out.alloc _⟩
    · have hbf : b = false := by
        cases b
        · rfl
        · obtain ⟨ng', L', h'⟩ := HB.out.1 rfl
          exact absurd (hpo.inj h').2.2 hj
      subst hbf
      have e0 : (((j : Nat) : Int) == 0) = false := by rw [beq_eq_false_iff_ne]; omega
      clear hpo hg
      go_wp2_with fail
      go_ret
      exact ⟨rfl, HG1.out.alloc _⟩
  · have e0 : (((k : Nat) : Int) == 0) = false := by rw [beq_eq_false_iff_ne]; omega
    by_cases h1 : k = 1
    · subst h1
      have hb2 : b = decide (s.size ≤ 1024) := by
        rw [Bool.eq_iff_iff, hb, decide_eq_true_iff]
        refine ⟨fun h => ?_, fun h => .inr (.inl ⟨rfl, h⟩)⟩
        rcases h with ⟨h, _⟩ | ⟨_, h⟩ | ⟨h, _⟩
        · cases h
        · exact h
        · cases h
      rw [show (((1 : Nat) : Nat) : Int) = 1 from rfl] at HG ⊢
      clear hb hx e0 h0
      by_cases hs : s.size ≤ 1024
      · rw [decide_eq_true hs] at hb2
        subst hb2
        have f1 : (s.size : Int) ≤ 1024 := by omega
        go_enter Tryz.func37, Tryz.ntmps37
        go_wp2_with fail
        go_ret
        exact ⟨rfl, HG.out⟩
      · rw [decide_eq_false hs] at hb2
        subst hb2
        have f1 : ¬ (s.size : Int) ≤ 1024 := by omega
        go_enter Tryz.func37, Tryz.ntmps37
        go_wp2_with fail
        go_ret
        exact ⟨rfl, HG.out⟩
    · have e1 : (((k : Nat) : Int) == 1) = false := by rw [beq_eq_false_iff_ne]; omega
      by_cases h2 : k = 2
      · subst h2
        have hb2 : b = (Mt.arity (Lg.bytes s)).isSome := by
          rw [Bool.eq_iff_iff, hb]
          refine ⟨fun h => ?_, fun h => .inr (.inr ⟨rfl, h⟩)⟩
          rcases h with ⟨h, _⟩ | ⟨h, _⟩ | ⟨_, h⟩
          · cases h
          · cases h
          · exact h
        have HA := hid (fun (W : World) => rarity_c s W)
        rw [show (((2 : Nat) : Nat) : Int) = 2 from rfl] at HG ⊢
        generalize Mt.arity (Lg.bytes s) = r at *
        clear hb hx e0 h0 e1 h1
        subst hb2
        go_enter Tryz.func37, Tryz.ntmps37
        go_wp2_with fail
        refine (HA.out _).mono ?_
        rintro e w1 ⟨k, rfl, _, rfl⟩
        go_wp2_with fail
        go_ret
        exact ⟨rfl, HG.out⟩
      · have e2 : (((k : Nat) : Int) == 2) = false := by rw [beq_eq_false_iff_ne]; omega
        have hbf : b = false := by
          cases b
          · rfl
          · rcases hb.1 rfl with ⟨h, _⟩ | ⟨h, _⟩ | ⟨h, _⟩
            · exact absurd h h0
            · exact absurd h h1
            · exact absurd h h2
        subst hbf
        clear hb hx h0 h1 h2
        go_enter Tryz.func37, Tryz.ntmps37
        go_wp2_with fail
        go_ret
        exact ⟨rfl, HG.out⟩
/-- The first literals are valid. -/
def LitsTo (l : List Mt.Lit) (i : Nat) : Prop := ∀ j x, j < i → l[j]? = some x → Mt.LitOk x
/-- The first instructions fit. -/
def FitsTo (m : Mt.Meth) (p : Nat) (l : List Op7.Ins) (vars classes : Int) (i : Nat) : Prop := ∀ j o, j < i → l[j]? = some o → Mt.fits m p o vars classes = true
theorem fits_all {m : Mt.Meth} {p : Nat} {l : List Op7.Ins} {vars classes : Int} (h : FitsTo m p l vars classes l.length) : l.all (fun o => Mt.fits m p o vars classes) = true := by
  rw [List.all_eq_true]
  intro o ho
  obtain ⟨j, hj, rfl⟩ := List.mem_iff_getElem.1 ho
  exact h j _ hj (List.getElem?_eq_getElem hj)
theorem may_of {v : MV} {vars classes : Int} {n : Nat} {v0 : PV} (h1 : Mt.arity (Lg.bytes v.sel) = some n) (h2 : v.lits.length ≤ 64) (h3 : LitsTo v.lits v.lits.length) (h4 : 1 ≤ v.vs.length ∧ v.vs.length ≤ 64) (h5 : HeadsTo v.vs v.vs.length) (h6 : v.vs[0]? = some v0) (h7 : v0.p.args = ((n : Nat) : Int)) (h8 : CodesTo v.m v.vs v.vs.length vars classes) : Mt.May v.m vars classes := by
  refine ⟨?_, h2, ?_, ⟨?_, ?_, heads_all h5⟩, ?_, ?_⟩
  · show (Mt.arity (Lg.bytes v.sel)).isSome = true
    rw [h1]; rfl
  · intro x hx
    obtain ⟨j, hj, rfl⟩ := List.mem_iff_getElem.1 (show x ∈ v.lits from hx)
    exact h3 j _ hj (List.getElem?_eq_getElem hj)
  · show 1 ≤ (v.vs.map (·.p)).length
    rw [List.length_map]; exact h4.1
  · show (v.vs.map (·.p)).length ≤ 64
    rw [List.length_map]; exact h4.2
  · show ((v.vs.map (·.p))[0]?).map (·.args) = (Mt.arity (Lg.bytes v.sel)).map (fun n => (n : Int))
    rw [h1, List.getElem?_map, h6]
    exact congrArg some h7
  · intro i p hp
    have hp' : (v.vs.map (·.p))[i]? = some p := hp
    rw [List.getElem?_map] at hp'
    obtain ⟨x, hx, rfl⟩ := Option.map_eq_some_iff.1 hp'
    exact h8 i x (List.getElem?_eq_some_iff.1 hx).1 hx
theorem may_head {v : MV} {vars classes : Int} (h : Mt.May v.m vars classes) {i : Nat} {x : PV} (hx : v.vs[i]? = some x) : Mt.headOk x.p i = true :=
  h.parts.2.2 i x.p (by show (v.vs.map (·.p))[i]? = some x.p; rw [List.getElem?_map, hx]; rfl)
theorem may_code {v : MV} {vars classes : Int} (h : Mt.May v.m vars classes) {i : Nat} {x : PV} (hx : v.vs[i]? = some x) : Mt.CodeOk v.m i x.p.code vars classes :=
  h.code i x.p (by show (v.vs.map (·.p))[i]? = some x.p; rw [List.getElem?_map, hx]; rfl)
theorem may_args {v : MV} {vars classes : Int} {n : Nat} (h : Mt.May v.m vars classes) (h1 : Mt.arity (Lg.bytes v.sel) = some n) {x : PV} (hx : v.vs[0]? = some x) : x.p.args = ((n : Nat) : Int) := by
  have h2 : ((v.vs.map (·.p))[0]?).map (·.args) = (Mt.arity (Lg.bytes v.sel)).map (fun n => (n : Int)) := h.args
  rw [h1, List.getElem?_map, hx] at h2
  exact Option.some.inj h2
end Go.Proofs.YtjdgcgpidhljpaaGreatDoor

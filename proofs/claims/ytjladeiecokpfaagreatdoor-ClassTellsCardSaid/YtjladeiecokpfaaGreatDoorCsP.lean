/- Stage 10: what Check asks is which classes may be. -/
import Derived.Test.YtjladeiecokpfaaGreatDoorCsO
namespace Go.Proofs.YtjladeiecokpfaaGreatDoor
open Go.RowKit

theorem nodup_len10 {α : Type} [DecidableEq α] : ∀ {L M : List α}, L.Nodup → (∀ x ∈ L, x ∈ M) → L.length ≤ M.length
  | [], _, _, _ => Nat.zero_le _
  | x :: r, M, hn, hs => by
    obtain ⟨h1, h2⟩ := List.nodup_cons.1 hn
    have h3 := nodup_len10 (L := r) (M := M.erase x) h2 (fun y hy => (List.mem_erase_of_ne (fun e => h1 (by rw [← e]; exact hy))).2 (hs y (List.mem_cons_of_mem _ hy)))
    have h4 := hs x List.mem_cons_self
    rw [List.length_erase_of_mem h4] at h3
    have := List.length_pos_of_mem h4
    rw [List.length_cons]
    omega
/-- The numbers below n, as they stand in a class. -/
def below (n : Nat) : List Int := (List.range n).map fun k => ((k : Nat) : Int)
theorem mem_below {n : Nat} {x : Int} : x ∈ below n ↔ isIdx x n = true := by
  rw [isIdx_iff]
  unfold below
  rw [List.mem_map]
  constructor
  · rintro ⟨k, hk, rfl⟩
    have := List.mem_range.1 hk
    omega
  · rintro ⟨h1, h2⟩
    exact ⟨x.toNat, List.mem_range.2 (by omega), by omega⟩
theorem below_len (n : Nat) : (below n).length = n := by simp [below]
theorem below_nodup (n : Nat) : (below n).Nodup := by
  unfold below
  rw [List.nodup_iff_pairwise_ne, List.pairwise_map]
  exact List.nodup_range.imp (fun h e => h (by omega))
/-- All of them are there. -/
theorem all_there {L : List Int} {n : Nat} (hn : L.Nodup) (hl : L.length = n) (hs : ∀ x ∈ L, isIdx x n = true) {k : Nat} (hk : k < n) : ((k : Nat) : Int) ∈ L := by
  by_cases hm : ((k : Nat) : Int) ∈ L
  · exact hm
  · exfalso
    have hb : ((k : Nat) : Int) ∈ below n := mem_below.2 (isIdx_iff.2 ⟨by omega, by omega⟩)
    have h := nodup_len10 (M := (below n).erase ((k : Nat) : Int)) hn (fun x hx => (List.mem_erase_of_ne (fun e => hm (by rw [← e]; exact hx))).2 (mem_below.2 (hs x hx)))
    rw [List.length_erase_of_mem hb, below_len] at h
    omega
theorem once_of {L : List Int} {n : Nat} (hn : L.Nodup) (hl : L.length = n) (hs : ∀ x ∈ L, isIdx x n = true) {k : Nat} (hk : k < n) : L.count ((k : Nat) : Int) = 1 := by
  have h1 := List.count_pos_iff.2 (all_there hn hl hs hk)
  have h2 := List.nodup_iff_count.1 hn ((k : Nat) : Int)
  omega
theorem listed_of {L : List Int} {n : Nat} (hs : ∀ x ∈ L, isIdx x n = true) (hc : ∀ k, k < n → L.count ((k : Nat) : Int) = 1) : L.length = n ∧ L.Nodup := by
  have hn : L.Nodup := List.nodup_iff_count.2 fun x => by
    by_cases hx : x ∈ L
    · obtain ⟨h1, h2⟩ := isIdx_iff.1 (hs x hx)
      obtain ⟨k, rfl⟩ : ∃ k : Nat, x = k := ⟨x.toNat, by omega⟩
      rw [hc k (by omega)]
      exact Nat.le_refl _
    · rw [List.count_eq_zero.2 hx]
      exact Nat.zero_le _
  refine ⟨Nat.le_antisymm ?_ ?_, hn⟩
  · have := nodup_len10 hn (fun x hx => mem_below.2 (hs x hx))
    rwa [below_len] at this
  · have := nodup_len10 (L := below n) (M := L) (below_nodup n) (fun x hx => by
      obtain ⟨h1, h2⟩ := isIdx_iff.1 (mem_below.1 hx)
      obtain ⟨k, rfl⟩ : ∃ k : Nat, x = k := ⟨x.toNat, by omega⟩
      have h3 := hc k (by omega)
      exact List.count_pos_iff.1 (by omega))
    rwa [below_len] at this
theorem allLike_at : ∀ {l r : List CV}, allLike l r = true ↔ l.length = r.length ∧ ∀ (i : Nat) (u v : CV), l[i]? = some u → r[i]? = some v → likeB u v = true
  | [], [] => by simp [allLike]
  | [], _ :: _ => by simp [allLike]
  | _ :: _, [] => by simp [allLike]
  | u :: l, v :: r => by
    rw [allLike, Bool.and_eq_true, allLike_at (l := l) (r := r)]
    constructor
    · rintro ⟨h1, h2, h3⟩
      refine ⟨by simp [h2], fun i a b ha hb => ?_⟩
      cases i with
      | zero =>
        simp only [List.getElem?_cons_zero, Option.some.injEq] at ha hb
        rw [← ha, ← hb]; exact h1
      | succ i =>
        simp only [List.getElem?_cons_succ] at ha hb
        exact h3 i a b ha hb
    · rintro ⟨h1, h2⟩
      exact ⟨h2 0 u v rfl rfl, by simpa using h1, fun i a b ha hb => h2 (i + 1) a b (by simpa using ha) (by simpa using hb)⟩
theorem firstV_at (c : Nat) (h : c < 11) : firstV[c]? = some ⟨⟨firstB.getD c ⟨#[]⟩, if c = 0 then -1 else 0, [], []⟩, none, 0, none, 0⟩ := by
  unfold firstV firstL
  simp [h]
theorem firsts_at : ∀ c, c < 11 → Cs.firsts[c]? = some (Pk.natsOf (firstB.getD c ⟨#[]⟩)) := by decide
theorem natsOf_inj {a b : ByteArray} (h : Pk.natsOf a = Pk.natsOf b) : a = b := by
  have h1 := bytes_eq10 a b.data.toList
  rw [show b.data.toList.map UInt8.toNat = Pk.natsOf b from rfl, h] at h1
  simp only [beq_self_eq_true, beq_iff_eq] at h1
  rw [ByteArray.toList_eq] at h1
  cases a; cases b
  exact congrArg ByteArray.mk (Array.toList_inj.1 h1)
theorem like_first {x : Cs.Cls} {c : Nat} (hc : c < 11) {v u : CV} (hv : v.c = x) (hu : firstV[c]? = some u) : likeB v u = true ↔ (Cs.firsts[c]? = some (Pk.natsOf x.name) ∧ x.sup = (if c = 0 then -1 else 0) ∧ x.vars = []) := by
  rw [firstV_at c hc] at hu
  obtain rfl := Option.some.inj hu
  unfold likeB
  rw [decide_eq_true_iff, hv, firsts_at c hc]
  simp only [Option.some.injEq]
  exact ⟨fun ⟨h1, h2, h3⟩ => ⟨by rw [h1], h2, h3⟩, fun ⟨h1, h2, h3⟩ => ⟨(natsOf_inj h1).symm, h2, h3⟩⟩
/-- A class's own variables are among its variables. -/
theorem own_vars {l : List Cs.Cls} {c : Nat} {x : Cs.Cls} (hx : l[c]? = some x) {s : ByteArray} (hs : s ∈ x.vars) : s ∈ Cs.names l ((c : Nat) : Int) := by
  unfold Cs.names
  rw [List.mem_flatMap]
  refine ⟨c, ?_, by rw [hx]; exact hs⟩
  rw [List.mem_reverse, Cs.chain_in l hx]
  exact List.mem_cons_self
theorem names_low {l : List Cs.Cls} {c : Nat} (hc : c < 11) (h : ∀ i x, i < 11 → l[i]? = some x → x.vars = []) : Cs.names l ((c : Nat) : Int) = [] := by
  refine List.eq_nil_iff_forall_not_mem.2 fun s hs => ?_
  unfold Cs.names at hs
  obtain ⟨i, hi, hm⟩ := List.mem_flatMap.1 hs
  have h1 := (Cs.chain_lt l (((c : Nat) : Int).toNat + 1) _ (Nat.lt_succ_self _) i (List.mem_reverse.1 hi)).2
  cases hx : l[i]? with
  | none => rw [hx] at hm; cases hm
  | some x =>
    rw [hx] at hm
    have h2 := h i x (by omega) hx
    simp only [Option.map_some, Option.getD_some, h2] at hm
    cases hm
theorem sel_nodup {ms : List MV} {a : List Int} (h : ∀ i ∈ a, isIdx i ms.length = true) : (a.map (selOf (sels ms))).Nodup ↔ (a.map fun m => (sels ms)[m.toNat]?).Nodup := by
  have e : (a.map fun m => (sels ms)[m.toNat]?) = (a.map (selOf (sels ms))).map some := by
    rw [List.map_map]
    refine List.map_congr_left fun i hi => ?_
    obtain ⟨h1, h2⟩ := isIdx_iff.1 (h i hi)
    have h3 : i.toNat < (sels ms).length := by rw [sels_len]; omega
    show (sels ms)[i.toNat]? = some (selOf (sels ms) i)
    unfold selOf
    rw [List.getD_eq_getElem?_getD, List.getElem?_eq_getElem h3]
    rfl
  have key : ∀ L : List ByteArray, (L.map some).Nodup ↔ L.Nodup := fun L => by
    rw [List.nodup_iff_pairwise_ne, List.nodup_iff_pairwise_ne, List.pairwise_map]
    exact ⟨fun hp => hp.imp (fun hne he => hne (by rw [he])), fun hp => hp.imp (fun hne he => hne (Option.some.inj he))⟩
  rw [e, key]
/-- Which classes may be, in the words of the mathematics. -/
def MayC (l : List CV) (ms : List MV) : Prop := Cs.May (cls l) (sels ms) (mayM ms)
theorem may_iff {l : List CV} {ms : List MV} : MayC l ms ↔ AreC l ∧ Listed (cls l) ms.length ∧ ∀ c x, (cls l)[c]? = some x → MethsOk (cls l) ms c x := by
  constructor
  · intro h
    have hlen := h.len
    rw [cls_len] at hlen
    have hidx : ∀ x ∈ nums (cls l), isIdx x ms.length = true := fun x hx => by
      obtain ⟨y, hy, hxy⟩ := List.mem_flatMap.1 hx
      obtain ⟨c, hc, rfl⟩ := List.mem_iff_getElem.1 hy
      have := (h.one c _ (List.getElem?_eq_getElem hc)).ms x hxy
      rw [sels_len] at this
      exact isIdx_iff.2 ⟨this.1, this.2.1⟩
    obtain ⟨q1, q2⟩ := listed_of hidx (fun k hk => h.once k (by rw [sels_len]; exact hk))
    have hlow : ∀ i x, i < 11 → (cls l)[i]? = some x → x.vars = [] := fun i x hi hx => ((h.one i x hx).first hi).2.2
    refine ⟨⟨hlen, ?_, fun c x hx => ?_, h.names⟩, ⟨?_, q1, hidx, q2⟩, fun c x hx => ?_⟩
    · rw [allLike_at]
      refine ⟨by rw [List.length_take]; show min 11 l.length = 11; omega, fun i u v hu hv => ?_⟩
      have hi : i < 11 := (List.getElem?_eq_some_iff.1 hv).1
      rw [List.getElem?_take_of_lt hi] at hu
      exact (like_first hi rfl hv).2 ((h.one i u.c (cls_at hu)).first hi)
    · have ho := h.one c x hx
      refine ⟨fun hc => ?_, ?_⟩
      · obtain ⟨o1, o2, o3, o4, _⟩ := ho.own hc
        exact ⟨o1, by rcases o4 with o4 | o4 <;> omega⟩
      · rcases Nat.lt_or_ge c 11 with hc | hc
        · rw [names_low hc hlow]
          exact ⟨by decide, (fun s hs => by cases hs), List.nodup_nil⟩
        · obtain ⟨_, _, _, _, o5, o6⟩ := ho.own hc
          refine ⟨o5, fun s hs => ?_, o6⟩
          obtain ⟨y, hy, hv⟩ := names_mem hs
          obtain ⟨d, hd, rfl⟩ := List.mem_iff_getElem.1 hy
          exact (h.one d _ (List.getElem?_eq_getElem hd)).vars s hv
    · have := h.few
      rwa [sels_len] at this
    · have ho := h.one c x hx
      refine ⟨fun i hi => (ho.ms i hi).2.2, ?_⟩
      rw [sel_nodup (fun i hi => hidx i (List.mem_flatMap.2 ⟨x, List.mem_of_getElem? hx, hi⟩))]
      exact ho.sels
  · rintro ⟨⟨a1, a2, a3, a4⟩, ⟨b1, b2, b3, b4⟩, hm⟩
    obtain ⟨a5, a6⟩ := allLike_at.1 a2
    refine ⟨by rw [cls_len]; exact a1, by rw [sels_len]; exact b1, fun c x hx => ?_, a4, fun k hk => once_of b4 b2 b3 (by rwa [sels_len] at hk)⟩
    have hcl := (List.getElem?_eq_some_iff.1 hx).1
    rw [cls_len] at hcl
    have hv : l[c]? = some l[c] := List.getElem?_eq_getElem hcl
    have hxc := cls_at hv
    rw [hx] at hxc
    have hxe := Option.some.inj hxc
    have hidx : ∀ i ∈ x.ms, isIdx i ms.length = true := fun i hi => b3 i (List.mem_flatMap.2 ⟨x, List.mem_of_getElem? hx, hi⟩)
    refine ⟨fun hc => ?_, fun hc => ?_, fun s hs => (a3 c x hx).2.2.1 s (own_vars hx hs), fun i hi => ?_, ?_⟩
    · exact (like_first hc hxe.symm (firstV_at c hc)).1 (a6 c l[c] _ (by rw [List.getElem?_take_of_lt hc]; exact hv) (firstV_at c hc))
    · obtain ⟨n1, n2⟩ := (a3 c x hx).1 hc
      obtain ⟨v1, v2, v3⟩ := (a3 c x hx).2
      exact ⟨n1, by omega, by omega, by omega, v1, v3⟩
    · obtain ⟨i1, i2⟩ := isIdx_iff.1 (hidx i hi)
      exact ⟨i1, by rw [sels_len]; exact i2, (hm c x hx).1 i hi⟩
    · rw [← sel_nodup hidx]
      exact (hm c x hx).2
end Go.Proofs.YtjladeiecokpfaaGreatDoor

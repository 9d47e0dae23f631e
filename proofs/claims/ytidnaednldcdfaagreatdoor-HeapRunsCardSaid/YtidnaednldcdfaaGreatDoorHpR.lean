/- Stage 12: what is reached, and what a collection leaves. No program is named here. -/
import Derived.Test.YtidnaednldcdfaaGreatDoorHpP
namespace Go.Proofs.YtidnaednldcdfaaGreatDoor.Hp
open La Ob

/-- A Ref of one that is there. -/
def IsRef (L : List It) (v : Val) : Prop := v.k = 4 ∧ ∃ x ∈ L, x.i = v.n
inductive Reach (L : List It) (rs : List Val) : Int → Prop
  | root {v : Val} : v ∈ rs → IsRef L v → Reach L rs v.n
  | step {x : It} {v : Val} : x ∈ L → Reach L rs x.i → v ∈ x.o.f → IsRef L v → Reach L rs v.n
open Classical in
noncomputable def kept (L : List It) (rs : List Val) : List It := L.filter (fun x => decide (Reach L rs x.i))
theorem mem_kept {L : List It} {rs : List Val} {x : It} : x ∈ kept L rs ↔ x ∈ L ∧ Reach L rs x.i := by
  unfold kept
  simp [List.mem_filter]
theorem reach_in {L : List It} {rs : List Val} {i : Int} (h : Reach L rs i) : ∃ x ∈ L, x.i = i := by
  cases h with
  | root _ h => exact h.2
  | step _ _ _ h => exact h.2
/-- What is reached is reached still, among those that are left. -/
theorem reach_again {L : List It} {rs : List Val} {i : Int} (h : Reach L rs i) : Reach (kept L rs) rs i := by
  induction h with
  | root h1 h2 =>
    obtain ⟨h3, x, hx, e⟩ := h2
    exact .root h1 ⟨h3, x, mem_kept.2 ⟨hx, by rw [e]; exact .root h1 ⟨h3, x, hx, e⟩⟩, e⟩
  | step h1 h2 h3 h4 ih =>
    obtain ⟨h5, x, hx, e⟩ := h4
    exact .step (mem_kept.2 ⟨h1, h2⟩) ih h3 ⟨h5, x, mem_kept.2 ⟨hx, by rw [e]; exact .step h1 h2 h3 ⟨h5, x, hx, e⟩⟩, e⟩
theorem kept_kept (L : List It) (rs : List Val) : kept (kept L rs) rs = kept L rs := by
  have h : ∀ M : List It, (∀ x ∈ M, Reach M rs x.i) → kept M rs = M := fun M hM => by
    unfold kept
    exact List.filter_eq_self.2 (fun x hx => by simpa using hM x hx)
  exact h _ (fun x hx => reach_again (mem_kept.1 hx).2)
theorem kept_sorted {L : List It} (rs : List Val) (h : Sorted L) : Sorted (kept L rs) := h.filter _
/-- How many are not marked. -/
def un (L : List It) (M : List Int) : Nat := L.countP (fun x => decide (x.i ∉ M))
theorem un_le (L : List It) (M : List Int) : un L M ≤ L.length := List.countP_le_length
theorem un_nil (L : List It) : un L [] = L.length := by
  unfold un
  rw [List.countP_eq_length]
  simp
theorem un_mono (L : List It) (M : List Int) (i : Int) : un L (i :: M) ≤ un L M := by
  unfold un
  apply List.countP_mono_left
  intro x _ h
  simp only [List.mem_cons, decide_eq_true_eq] at h ⊢
  exact fun h1 => h (.inr h1)
theorem un_cons {L : List It} {M : List Int} {x : It} (hx : x ∈ L) (h : x.i ∉ M) : un L (x.i :: M) + 1 ≤ un L M := by
  induction L with
  | nil => simp at hx
  | cons y r ih =>
    have e1 : ∀ N, un (y :: r) N = un r N + if y.i ∉ N then 1 else 0 := by
      intro N
      unfold un
      rw [List.countP_cons]
      simp only [decide_eq_true_eq]
    rw [e1, e1]
    rcases List.mem_cons.1 hx with rfl | hx
    · have := un_mono r M x.i
      rw [if_neg (by simp), if_pos h]
      omega
    · have := ih hx
      by_cases h2 : y.i ∈ M
      · rw [if_neg (by simp [h2]), if_neg (by simp [h2])]
        omega
      · by_cases h3 : y.i = x.i
        · rw [if_neg (by simp [h3]), if_pos (by simpa using h2)]; omega
        · rw [if_pos (by simp [h3, h2]), if_pos (by simpa using h2)]; omega
/-- A value looked at: one that is there and not marked yet is marked, and put on the list. -/
def look (L : List It) (s : List Int × List It) (v : Val) : List Int × List It :=
  if v.k = 4 then match find L v.n with
    | none => s
    | some x => if v.n ∈ s.1 then s else (v.n :: s.1, s.2 ++ [x])
  else s
theorem look_no {L : List It} {s : List Int × List It} {v : Val} (h : v.k ≠ 4 ∨ find L v.n = none ∨ v.n ∈ s.1) : look L s v = s := by
  unfold look
  split
  · rename_i hk
    rcases h with h | h | h
    · exact absurd hk h
    · rw [h]
    · split
      · rfl
      · rw [if_pos h]
  · rfl
theorem look_yes {L : List It} {s : List Int × List It} {v : Val} {x : It} (hk : v.k = 4) (hf : find L v.n = some x) (hm : v.n ∉ s.1) : look L s v = (v.n :: s.1, s.2 ++ [x]) := by
  unfold look
  rw [if_pos hk, hf]
  simp only
  rw [if_neg hm]
/-- What is known while values are looked at: 'T' what is still to be looked at of others. -/
structure LookInv (L : List It) (rs : List Val) (T : Val → Prop) (s : List Int × List It) : Prop where
  sound : ∀ i ∈ s.1, Reach L rs i
  opn : ∀ x ∈ s.2, x ∈ L ∧ x.i ∈ s.1
  rts : ∀ v ∈ rs, IsRef L v → v.n ∈ s.1 ∨ T v
  done : ∀ x ∈ L, x.i ∈ s.1 → x ∈ s.2 ∨ ∀ v ∈ x.o.f, IsRef L v → v.n ∈ s.1 ∨ T v
  few : s.2.length + un L s.1 ≤ L.length
theorem LookInv.start (L : List It) (rs : List Val) : LookInv L rs (fun v => v ∈ rs) ([], []) :=
  ⟨by simp, by simp, fun v hv _ => .inr hv, by simp, by rw [un_nil]; simp⟩
/-- One value looked at. -/
theorem LookInv.look {L : List It} (hs : Sorted L) {rs : List Val} {T T' : Val → Prop} {s : List Int × List It} {v : Val} (h : LookInv L rs T s) (hT : ∀ u, T u → u = v ∨ T' u) (hv : IsRef L v → Reach L rs v.n) : LookInv L rs T' (look L s v) := by
  by_cases hr : IsRef L v
  · obtain ⟨hk, x, hx, e⟩ := id hr
    obtain ⟨y, hf⟩ : ∃ y, find L v.n = some y := by
      cases hf : find L v.n with
      | none => exact absurd e (find_none.1 hf x hx)
      | some y => exact ⟨y, rfl⟩
    have hy := find_mem hf
    by_cases hm : v.n ∈ s.1
    · rw [look_no (.inr (.inr hm))]
      have hup : ∀ u, u.n ∈ s.1 ∨ T u → u.n ∈ s.1 ∨ T' u := fun u hu => by
        rcases hu with h1 | h1
        · exact .inl h1
        · rcases hT u h1 with rfl | h2
          · exact .inl hm
          · exact .inr h2
      exact ⟨h.sound, h.opn, fun u hu h1 => hup u (h.rts u hu h1), fun z hz h1 => (h.done z hz h1).imp id (fun h2 u hu h3 => hup u (h2 u hu h3)), h.few⟩
    · rw [look_yes hk hf hm]
      have hup : ∀ u, u.n ∈ s.1 ∨ T u → u.n ∈ v.n :: s.1 ∨ T' u := fun u hu => by
        rcases hu with h1 | h1
        · exact .inl (List.mem_cons_of_mem _ h1)
        · rcases hT u h1 with rfl | h2
          · exact .inl (List.mem_cons_self ..)
          · exact .inr h2
      refine ⟨fun i hi => ?_, fun z hz => ?_, fun u hu h1 => hup u (h.rts u hu h1), fun z hz h1 => ?_, ?_⟩
      · rcases List.mem_cons.1 hi with rfl | hi
        · exact hv hr
        · exact h.sound i hi
      · rcases List.mem_append.1 hz with hz | hz
        · exact ⟨(h.opn z hz).1, List.mem_cons_of_mem _ (h.opn z hz).2⟩
        · obtain rfl := List.mem_singleton.1 hz
          exact ⟨hy.1, by rw [hy.2]; exact List.mem_cons_self ..⟩
      · by_cases h2 : z.i ∈ s.1
        · rcases h.done z hz h2 with h3 | h3
          · exact .inl (List.mem_append_left _ h3)
          · exact .inr (fun u hu h4 => hup u (h3 u hu h4))
        · have h3 : z.i = v.n := by
            rcases List.mem_cons.1 h1 with h3 | h3
            · exact h3
            · exact absurd h3 h2
          exact .inl (List.mem_append_right _ (List.mem_singleton.2 (sorted_one hs hz hy.1 (by rw [h3, hy.2]))))
      · have := un_cons hy.1 (by rw [hy.2]; exact hm)
        rw [hy.2] at this
        have := h.few
        simp only [List.length_append, List.length_singleton]
        omega
  · have hno : v.k ≠ 4 ∨ find L v.n = none ∨ v.n ∈ s.1 := by
      by_cases hk : v.k = 4
      · refine .inr (.inl (find_none.2 (fun x hx e => hr ⟨hk, x, hx, e⟩)))
      · exact .inl hk
    rw [look_no hno]
    have hup : ∀ u, IsRef L u → u.n ∈ s.1 ∨ T u → u.n ∈ s.1 ∨ T' u := fun u hu h0 => by
      rcases h0 with h1 | h1
      · exact .inl h1
      · rcases hT u h1 with rfl | h2
        · exact absurd hu hr
        · exact .inr h2
    exact ⟨h.sound, h.opn, fun u hu h1 => hup u h1 (h.rts u hu h1), fun z hz h1 => (h.done z hz h1).imp id (fun h2 u hu h3 => hup u h3 (h2 u hu h3)), h.few⟩
/-- Values looked at, one behind the other. -/
def lookAll (L : List It) (s : List Int × List It) (l : List Val) : List Int × List It := l.foldl (look L) s
theorem lookAll_snoc (L : List It) (s : List Int × List It) (l : List Val) (v : Val) : lookAll L s (l ++ [v]) = look L (lookAll L s l) v := by simp [lookAll]
theorem lookAll_app (L : List It) (s : List Int × List It) (l m : List Val) : lookAll L s (l ++ m) = lookAll L (lookAll L s l) m := by simp [lookAll]
theorem LookInv.all {L : List It} (hs : Sorted L) {rs : List Val} {T : Val → Prop} : ∀ (l : List Val) {s : List Int × List It}, LookInv L rs (fun u => u ∈ l ∨ T u) s → (∀ v ∈ l, IsRef L v → Reach L rs v.n) → LookInv L rs T (lookAll L s l)
  | [], s, h, _ => ⟨h.sound, h.opn, fun v hv h1 => (h.rts v hv h1).imp id (fun h2 => h2.resolve_left (by simp)), fun x hx h1 => (h.done x hx h1).imp id (fun h2 v hv h3 => (h2 v hv h3).imp id (fun h4 => h4.resolve_left (by simp))), h.few⟩
  | v :: r, s, h, hr => LookInv.all hs r (LookInv.look hs h (fun u hu => by
      rcases hu with h1 | h1
      · rcases List.mem_cons.1 h1 with h2 | h2
        · exact .inl h2
        · exact .inr (.inl h2)
      · exact .inr (.inr h1)) (hr v (List.mem_cons_self ..))) (fun u hu => hr u (List.mem_cons_of_mem _ hu))
theorem look_measure (L : List It) (s : List Int × List It) (v : Val) : 2 * un L (look L s v).1 + (look L s v).2.length ≤ 2 * un L s.1 + s.2.length ∧ s.2.length ≤ (look L s v).2.length ∧ un L (look L s v).1 + (look L s v).2.length ≤ un L s.1 + s.2.length := by
  by_cases hk : v.k = 4
  · cases hf : find L v.n with
    | none => rw [look_no (.inr (.inl hf))]; omega
    | some x =>
      have hx := find_mem hf
      by_cases hm : v.n ∈ s.1
      · rw [look_no (.inr (.inr hm))]; omega
      · rw [look_yes hk hf hm]
        have := un_cons hx.1 (by rw [hx.2]; exact hm)
        rw [hx.2] at this
        simp only [List.length_append, List.length_singleton]
        omega
  · rw [look_no (.inl hk)]; omega
theorem lookAll_measure (L : List It) : ∀ (l : List Val) (s : List Int × List It), 2 * un L (lookAll L s l).1 + (lookAll L s l).2.length ≤ 2 * un L s.1 + s.2.length ∧ s.2.length ≤ (lookAll L s l).2.length ∧ un L (lookAll L s l).1 + (lookAll L s l).2.length ≤ un L s.1 + s.2.length
  | [], s => by simp [lookAll]
  | v :: r, s => by
    have h1 := look_measure L s v
    have h2 := lookAll_measure L r (look L s v)
    show 2 * un L (lookAll L (look L s v) r).1 + (lookAll L (look L s v) r).2.length ≤ _ ∧ _ ≤ (lookAll L (look L s v) r).2.length ∧ un L (lookAll L (look L s v) r).1 + (lookAll L (look L s v) r).2.length ≤ _
    omega
theorem LookInv.more {L : List It} {rs : List Val} {T T' : Val → Prop} {s : List Int × List It} (h : LookInv L rs T s) (hT : ∀ u, T u → T' u) : LookInv L rs T' s :=
  ⟨h.sound, h.opn, fun v hv h1 => (h.rts v hv h1).imp id (hT v), fun x hx h1 => (h.done x hx h1).imp id (fun h2 v hv h3 => (h2 v hv h3).imp id (hT v)), h.few⟩
/-- The last one is taken off, and its fields are to be looked at. -/
theorem LookInv.pop {L : List It} {rs : List Val} {M : List Int} {op : List It} {x : It} (h : LookInv L rs (fun _ => False) (M, op ++ [x])) : LookInv L rs (fun u => u ∈ x.o.f ∨ False) (M, op) :=
  ⟨h.sound, fun y hy => h.opn y (List.mem_append_left _ hy), fun v hv h1 => (h.rts v hv h1).imp id (fun h => h.elim), fun y hy h1 => by
    rcases h.done y hy h1 with h2 | h2
    · rcases List.mem_append.1 h2 with h3 | h3
      · exact .inl h3
      · obtain rfl := List.mem_singleton.1 h3
        exact .inr (fun v hv _ => .inr (.inl hv))
    · exact .inr (fun v hv h3 => (h2 v hv h3).imp id (fun h => h.elim)), by have := h.few; simp at this ⊢; omega⟩
theorem LookInv.pop_reach {L : List It} {rs : List Val} {M : List Int} {op : List It} {x : It} (h : LookInv L rs (fun _ => False) (M, op ++ [x])) : ∀ v ∈ x.o.f, IsRef L v → Reach L rs v.n := fun v hv hr => by
  have h1 := h.opn x (List.mem_append_right _ (List.mem_singleton.2 rfl))
  exact .step h1.1 (h.sound _ h1.2) hv hr
/-- All of them at once: the fields of the whole list are to be looked at. -/
theorem LookInv.turn {L : List It} {rs : List Val} {M : List Int} {op : List It} (h : LookInv L rs (fun _ => False) (M, op)) : LookInv L rs (fun u => u ∈ op.flatMap (·.o.f) ∨ False) (M, []) :=
  ⟨h.sound, by simp, fun v hv h1 => (h.rts v hv h1).imp id (fun h => h.elim), fun y hy h1 => by
    refine .inr (fun v hv h3 => ?_)
    rcases h.done y hy h1 with h2 | h2
    · exact .inr (.inl (List.mem_flatMap.2 ⟨y, h2, hv⟩))
    · exact (h2 v hv h3).imp id (fun h => h.elim), by have := h.few; simp at this ⊢; omega⟩
theorem LookInv.turn_reach {L : List It} {rs : List Val} {M : List Int} {op : List It} (h : LookInv L rs (fun _ => False) (M, op)) : ∀ v ∈ op.flatMap (·.o.f), IsRef L v → Reach L rs v.n := fun v hv hr => by
  obtain ⟨x, hx, hv⟩ := List.mem_flatMap.1 hv
  have h1 := h.opn x hx
  exact .step h1.1 (h.sound _ h1.2) hv hr
theorem LookInv.final {L : List It} {rs : List Val} {M : List Int} (h : LookInv L rs (fun _ => False) (M, [])) (i : Int) : i ∈ M ↔ Reach L rs i := by
  refine ⟨h.sound i, fun hr => ?_⟩
  induction hr with
  | root h1 h2 => exact (h.rts _ h1 h2).resolve_right (fun h => h)
  | step h1 _ h3 h4 ih =>
    rcases h.done _ h1 ih with h5 | h5
    · simp at h5
    · exact (h5 _ h3 h4).resolve_right (fun h => h)
theorem LookInv.roots {L : List It} (hs : Sorted L) (rs : List Val) : LookInv L rs (fun _ => False) (lookAll L ([], []) rs) :=
  LookInv.all hs rs ((LookInv.start L rs).more (fun _ h => .inl h)) (fun _ hv hr => .root hv hr)
open Classical in
theorem kept_of {L : List It} {rs : List Val} {M : List Int} (h : ∀ i, i ∈ M ↔ Reach L rs i) : kept L rs = L.filter (fun x => decide (x.i ∈ M)) := by
  unfold kept
  congr 1
  funext x
  rw [Bool.eq_iff_iff]
  simp [h]
end Go.Proofs.YtidnaednldcdfaaGreatDoor.Hp

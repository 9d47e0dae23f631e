/- Plain mathematics of classes: which may be; one more behind. No program is named here. -/
import Derived.Test.YtjladeiecokpfaaGreatDoorClP
import Derived.Test.YtjladeiecokpfaaGreatDoorZMtP
namespace Go.Proofs.YtjladeiecokpfaaGreatDoor.Cs
open Go.RowKit

/-- A name that begins between two letters. -/
def nameOk (lo hi : Nat) (s : ByteArray) : Bool := match Pk.natsOf s with
  | [] => false
  | x :: r => decide (lo ≤ x) && decide (x ≤ hi) && decide ((x :: r).length ≤ 32) && (x :: r).all Mt.letter
def firsts : List (List Nat) := [[79, 98, 106, 101, 99, 116], [73, 110, 116, 101, 103, 101, 114], [76, 97, 114, 103, 101, 73, 110, 116, 101, 103, 101, 114], [85, 110, 100, 101, 102, 105, 110, 101, 100], [66, 111, 111, 108, 101, 97, 110], [83, 116, 114, 105, 110, 103], [65, 114, 114, 97, 121], [66, 108, 111, 99, 107], [69, 110, 118], [67, 108, 97, 115, 115], [83, 101, 109, 97, 112, 104, 111, 114, 101]]
def reserved : List (List Nat) := [[115, 101, 108, 102], [115, 117, 112, 101, 114], [110, 105, 108], [116, 114, 117, 101], [102, 97, 108, 115, 101]]
def varOk (s : ByteArray) : Bool := nameOk 97 122 s && !(reserved.contains (Pk.natsOf s))
/-- What holds of class number c. -/
structure OneOk (l : List Cls) (sels : List ByteArray) (may : Nat → Int → Int → Prop) (c : Nat) (x : Cls) : Prop where
  first : c < 11 → firsts[c]? = some (Pk.natsOf x.name) ∧ x.sup = (if c = 0 then -1 else 0) ∧ x.vars = []
  own : 11 ≤ c → nameOk 65 90 x.name = true ∧ 0 ≤ x.sup ∧ x.sup < (c : Int) ∧ (x.sup = 0 ∨ 11 ≤ x.sup) ∧ (names l (c : Int)).length ≤ 16 ∧ (names l (c : Int)).Nodup
  vars : ∀ v ∈ x.vars, varOk v = true
  ms : ∀ m ∈ x.ms, 0 ≤ m ∧ m < (sels.length : Int) ∧ may m.toNat ((names l (c : Int)).length : Int) (l.length : Int)
  sels : (x.ms.map fun m => sels[m.toNat]?).Nodup
/-- The classes may be, with these methods: 'may k v n': method k is valid for v variables and n classes. -/
structure May (l : List Cls) (sels : List ByteArray) (may : Nat → Int → Int → Prop) : Prop where
  len : 11 ≤ l.length ∧ l.length ≤ 64
  few : sels.length ≤ 256
  one : ∀ c x, l[c]? = some x → OneOk l sels may c x
  names : (l.map (·.name)).Nodup
  once : ∀ k, k < sels.length → (l.flatMap (·.ms)).count (k : Int) = 1
theorem sup_lt {l : List Cls} {sels : List ByteArray} {may : Nat → Int → Int → Prop} (h : May l sels may) {c : Nat} {x : Cls} (hx : l[c]? = some x) : x.sup < (c : Int) ∧ (c = 0 → x.sup = -1) ∧ (c ≠ 0 → 0 ≤ x.sup) := by
  have h1 := h.one c x hx
  rcases Nat.lt_or_ge c 11 with hc | hc
  · have h2 := (h1.first hc).2.1
    split at h2
    · exact ⟨by omega, fun _ => h2, fun h => absurd (by assumption) h⟩
    · exact ⟨by omega, fun h => absurd h (by assumption), fun _ => by omega⟩
  · have h2 := h1.own hc
    exact ⟨h2.2.2.1, fun h => by omega, fun _ => h2.2.1⟩
/-- Each stands below the first one. -/
theorem under_zero {l : List Cls} {sels : List ByteArray} {may : Nat → Int → Int → Prop} (h : May l sels may) : ∀ (n c : Nat), c < n → c < l.length → under l (c : Int) 0 = true
  | 0, _, hc, _ => absurd hc (Nat.not_lt_zero _)
  | n + 1, c, hc, hl => by
    have hx : l[c]? = some l[c] := List.getElem?_eq_getElem hl
    obtain ⟨s1, s2, s3⟩ := sup_lt h hx
    rw [under_mem, chain_in l hx, if_neg (by omega)]
    by_cases h0 : c = 0
    · exact ⟨c, List.mem_cons_self, by omega⟩
    · have s4 := s3 h0
      obtain ⟨k, hk⟩ : ∃ k : Nat, l[c].sup = k := ⟨l[c].sup.toNat, by omega⟩
      rw [hk] at s1 ⊢
      obtain ⟨i, hi, e⟩ := under_mem.1 (under_zero h n k (by omega) (by omega))
      exact ⟨i, List.mem_cons_of_mem _ hi, e⟩
theorem count_flatMap {l : List Cls} {m : Int} : ∀ {c : Nat} {x : Cls}, l[c]? = some x → m ∈ x.ms → ∀ {d : Nat} {y : Cls}, l[d]? = some y → m ∈ y.ms → c ≠ d → 2 ≤ (l.flatMap (·.ms)).count m := by
  induction l with
  | nil => intro c x hx; simp at hx
  | cons z r ih =>
    intro c x hx hm d y hy hn hne
    rw [List.flatMap_cons, List.count_append]
    match c, d, hx, hy, hne with
    | 0, 0, _, _, hne => exact absurd rfl hne
    | 0, d + 1, hx, hy, _ =>
      obtain rfl : z = x := by simpa using hx
      have h1 : 0 < List.count m z.ms := List.count_pos_iff.2 hm
      have h2 : 0 < List.count m (r.flatMap (·.ms)) := List.count_pos_iff.2 (List.mem_flatMap.2 ⟨y, List.mem_of_getElem? (by simpa using hy), hn⟩)
      omega
    | c + 1, 0, hx, hy, _ =>
      obtain rfl : z = y := by simpa using hy
      have h1 : 0 < List.count m z.ms := List.count_pos_iff.2 hn
      have h2 : 0 < List.count m (r.flatMap (·.ms)) := List.count_pos_iff.2 (List.mem_flatMap.2 ⟨x, List.mem_of_getElem? (by simpa using hx), hm⟩)
      omega
    | c + 1, d + 1, hx, hy, hne =>
      have := ih (c := c) (x := x) (by simpa using hx) hm (d := d) (y := y) (by simpa using hy) hn (fun e => hne (by rw [e]))
      omega
/-- Where a method stands. -/
theorem stands {l : List Cls} {sels : List ByteArray} {may : Nat → Int → Int → Prop} (h : May l sels may) {k : Nat} (hk : k < sels.length) : ∃ (c : Nat) (x : Cls), l[c]? = some x ∧ (k : Int) ∈ x.ms ∧ ∀ (d : Nat) (y : Cls), l[d]? = some y → (k : Int) ∈ y.ms → d = c := by
  have h1 := h.once k hk
  have h2 : 0 < (l.flatMap (·.ms)).count (k : Int) := by omega
  obtain ⟨x, hx, hm⟩ := List.mem_flatMap.1 (List.count_pos_iff.1 h2)
  obtain ⟨c, hc, rfl⟩ := List.mem_iff_getElem.1 hx
  refine ⟨c, l[c], List.getElem?_eq_getElem hc, hm, fun d y hy hn => ?_⟩
  by_cases he : d = c
  · exact he
  · have := count_flatMap hy hn (List.getElem?_eq_getElem hc) hm he
    omega
theorem owner_of {l : List Cls} {k : Int} {c : Nat} {x : Cls} (hx : l[c]? = some x) (hm : k ∈ x.ms) (hu : ∀ d y, l[d]? = some y → k ∈ y.ms → d = c) : owner l k = some c := by
  unfold owner
  obtain ⟨hc, rfl⟩ := List.getElem?_eq_some_iff.1 hx
  rw [List.findIdx?_eq_some_iff_getElem]
  refine ⟨hc, by simpa using hm, fun j hj => ?_⟩
  intro hb
  have := hu j l[j] (List.getElem?_eq_getElem (by omega)) (by simpa using hb)
  omega
/-- A method that is found stands in the class, or above it. -/
theorem find_owner {l : List Cls} {sels : List ByteArray} {may : Nat → Int → Int → Prop} (h : May l sels may) {c : Int} {s : ByteArray} {k : Nat} (hf : find l sels c s = some k) : k < sels.length ∧ sels[k]? = some s ∧ ∃ o, owner l (k : Int) = some o ∧ under l c (o : Int) = true := by
  obtain ⟨i, hi, x, hx, hm, hs⟩ := findAt_sound hf
  have hk := (List.getElem?_eq_some_iff.1 hs).1
  obtain ⟨d, y, hy, hn, hu⟩ := stands h hk
  have e := hu i x hx hm
  subst e
  exact ⟨hk, hs, i, owner_of hy hn hu, under_mem.2 ⟨i, hi, rfl⟩⟩
theorem findIn_own {sels : List ByteArray} {s : ByteArray} {k : Nat} (hs : sels[k]? = some s) : ∀ {ms : List Int}, (∀ m ∈ ms, 0 ≤ m) → (ms.map fun m => sels[m.toNat]?).Nodup → (k : Int) ∈ ms → findIn sels s ms = some k
  | [], _, _, h => by cases h
  | m :: r, h0, hd, h => by
    rw [List.map_cons, List.nodup_cons] at hd
    unfold findIn
    rcases List.mem_cons.1 h with e | h
    · rw [if_pos ⟨h0 m List.mem_cons_self, by rw [← e, Int.toNat_natCast]; exact hs⟩, ← e, Int.toNat_natCast]
    · rw [if_neg]
      · exact findIn_own hs (fun x hx => h0 x (List.mem_cons_of_mem _ hx)) hd.2 h
      · rintro ⟨_, e⟩
        apply hd.1
        rw [List.mem_map]
        exact ⟨(k : Int), h, by rw [Int.toNat_natCast, hs, e]⟩
/-- A method's class finds it. -/
theorem find_own {l : List Cls} {sels : List ByteArray} {may : Nat → Int → Int → Prop} (h : May l sels may) {k : Nat} {s : ByteArray} (hs : sels[k]? = some s) : ∃ o, owner l (k : Int) = some o ∧ find l sels (o : Int) s = some k := by
  obtain ⟨c, x, hx, hm, hu⟩ := stands h (List.getElem?_eq_some_iff.1 hs).1
  refine ⟨c, owner_of hx hm hu, ?_⟩
  have h1 := h.one c x hx
  unfold find
  rw [chain_in l hx, findAt, hx]
  simp only [Option.map_some, Option.getD_some]
  rw [findIn_own hs (fun m hm => (h1.ms m hm).1) h1.sels hm]
/-- One more behind changes no elder chain. -/
theorem chain_snoc (l : List Cls) (z : Cls) : ∀ (n : Nat) (c : Int), c.toNat < n → c < (l.length : Int) → chain (l ++ [z]) c = chain l c
  | 0, _, h, _ => absurd h (Nat.not_lt_zero _)
  | n + 1, c, h, hl => by
    by_cases hc : c < 0
    · rw [chain_out _ (.inl hc), chain_out _ (.inl hc)]
    · obtain ⟨k, rfl⟩ : ∃ k : Nat, c = k := ⟨c.toNat, by omega⟩
      have hx : l[k]? = some l[k] := List.getElem?_eq_getElem (by omega)
      have hx2 : (l ++ [z])[k]? = some l[k] := by rw [List.getElem?_append_left (by omega)]; exact hx
      rw [chain_in l hx, chain_in _ hx2]
      by_cases hs : (k : Int) ≤ l[k].sup
      · rw [if_pos hs, if_pos hs]
      · rw [if_neg hs, if_neg hs]
        by_cases hn : l[k].sup < 0
        · rw [chain_out _ (.inl hn), chain_out _ (.inl hn)]
        · rw [chain_snoc l z n l[k].sup (by omega) (by omega)]
theorem flat_same {α : Type} {f g : Nat → List α} : ∀ {a : List Nat}, (∀ i ∈ a, f i = g i) → a.flatMap f = a.flatMap g
  | [], _ => rfl
  | i :: a, h => by
    rw [List.flatMap_cons, List.flatMap_cons, h i List.mem_cons_self, flat_same (fun j hj => h j (List.mem_cons_of_mem _ hj))]
theorem names_snoc (l : List Cls) (z : Cls) {c : Int} (hl : c < (l.length : Int)) : names (l ++ [z]) c = names l c := by
  unfold names
  rw [chain_snoc l z (c.toNat + 1) c (Nat.lt_succ_self _) hl]
  refine flat_same fun i hi => ?_
  have := (chain_lt l (c.toNat + 1) c (Nat.lt_succ_self _) i (List.mem_reverse.1 hi)).1
  rw [List.getElem?_append_left this]
theorem findAt_snoc (l : List Cls) (z : Cls) (sels : List ByteArray) (s : ByteArray) : ∀ (a : List Nat), (∀ i ∈ a, i < l.length) → findAt (l ++ [z]) sels s a = findAt l sels s a
  | [], _ => rfl
  | i :: a, h => by
    rw [findAt, findAt, List.getElem?_append_left (h i List.mem_cons_self), findAt_snoc l z sels s a (fun j hj => h j (List.mem_cons_of_mem _ hj))]
/-- The chain of the one more. -/
theorem chain_new (l : List Cls) (z : Cls) (h1 : z.sup < (l.length : Int)) : chain (l ++ [z]) (l.length : Int) = l.length :: chain l z.sup := by
  rw [chain_in (l ++ [z]) (x := z) (by simp), if_neg (by omega), chain_snoc l z (z.sup.toNat + 1) z.sup (Nat.lt_succ_self _) h1]
theorem names_new (l : List Cls) (z : Cls) (h1 : z.sup < (l.length : Int)) (hv : z.vars = []) : names (l ++ [z]) (l.length : Int) = names l z.sup := by
  rw [← names_snoc l z h1]
  unfold names
  rw [chain_new l z h1, chain_snoc l z (z.sup.toNat + 1) z.sup (Nat.lt_succ_self _) h1, List.reverse_cons, List.flatMap_append]
  simp [hv]
theorem find_new (l : List Cls) (z : Cls) (sels : List ByteArray) (s : ByteArray) (h1 : z.sup < (l.length : Int)) (hm : z.ms = []) : find (l ++ [z]) sels (l.length : Int) s = find l sels z.sup s := by
  unfold find
  rw [chain_new l z h1, findAt]
  have : (l ++ [z])[l.length]? = some z := by simp
  rw [this]
  simp only [Option.map_some, Option.getD_some, hm]
  show (match findIn sels s [] with | some k => some k | none => _) = _
  exact findAt_snoc l z sels s _ (fun i hi => (chain_lt l (z.sup.toNat + 1) z.sup (Nat.lt_succ_self _) i hi).1)
theorem names_zero {l : List Cls} {sels : List ByteArray} {may : Nat → Int → Int → Prop} (h : May l sels may) : names l 0 = [] := by
  have h9 : 0 < l.length := by have := h.len; omega
  have hx : l[0]? = some l[0] := List.getElem?_eq_getElem h9
  have h1 := (h.one 0 _ hx).first (by decide)
  have hs : l[0].sup = -1 := by rw [h1.2.1]; rfl
  have hc : chain l ((0 : Nat) : Int) = [0] := by rw [chain_in l hx, if_neg (by omega), hs, chain_out l (.inl (by decide))]
  show (chain l ((0 : Nat) : Int)).reverse.flatMap _ = []
  rw [hc]
  show (((l[0]?).map (·.vars)).getD []) ++ [] = []
  rw [hx]
  show l[0].vars ++ [] = []
  rw [h1.2.2]; rfl
/-- One more behind may be, too. -/
theorem may_snoc {l : List Cls} {z : Cls} {sels : List ByteArray} {may : Nat → Int → Int → Prop} (h : May l sels may) (hl : l.length < 64) (hz : nameOk 65 90 z.name = true) (h0 : 0 ≤ z.sup) (h1 : z.sup < (l.length : Int)) (h2 : z.sup = 0 ∨ 11 ≤ z.sup) (hv : z.vars = []) (hm : z.ms = []) (hn : z.name ∉ l.map (·.name)) (mono : ∀ k v n n', n ≤ n' → may k v n → may k v n') : May (l ++ [z]) sels may := by
  refine ⟨by have := h.len; simp; omega, h.few, fun c x hx => ?_, ?_, fun k hk => ?_⟩
  · rcases Nat.lt_or_ge c l.length with hc | hc
    · rw [List.getElem?_append_left hc] at hx
      have h3 := h.one c x hx
      have e : names (l ++ [z]) (c : Int) = names l (c : Int) := names_snoc l z (by omega)
      refine ⟨h3.first, fun hg => ?_, h3.vars, fun m hmm => ?_, h3.sels⟩
      · rw [e]; exact h3.own hg
      · obtain ⟨a1, a2, a3⟩ := h3.ms m hmm
        refine ⟨a1, a2, ?_⟩
        rw [e]
        exact mono _ _ _ _ (by simp; omega) a3
    · have hc2 : c = l.length := by
        have := (List.getElem?_eq_some_iff.1 hx).1
        simp at this
        omega
      subst hc2
      obtain rfl : z = x := by simpa using hx
      have e := names_new l z h1 hv
      refine ⟨fun hg => by have := h.len; omega, fun _ => ⟨hz, h0, h1, h2, ?_⟩, (fun v hvv => by rw [hv] at hvv; cases hvv), (fun m hmm => by rw [hm] at hmm; cases hmm), by rw [hm]; exact List.nodup_nil⟩
      rw [e]
      rcases h2 with h2 | h2
      · rw [h2, names_zero h]
        exact ⟨by decide, List.nodup_nil⟩
      · obtain ⟨k, hk⟩ : ∃ k : Nat, z.sup = k := ⟨z.sup.toNat, by omega⟩
        rw [hk]
        have h4 := (h.one k l[k] (List.getElem?_eq_getElem (by omega))).own (by omega)
        exact h4.2.2.2.2
  · rw [List.map_append, List.nodup_append]
    refine ⟨h.names, by simp, fun a ha b hb => ?_⟩
    rintro rfl
    have : a = z.name := by simpa using hb
    exact hn (by rw [← this]; exact ha)
  · rw [List.flatMap_append, List.count_append, h.once k hk]
    simp [hm]
end Go.Proofs.YtjladeiecokpfaaGreatDoor.Cs

/- Stage 11: a Store beside the reference's objects. -/
import Derived.Test.YtcfknfiddadgbaaDoorOcK
namespace Go.Proofs.YtcfknfiddadgbaaDoor
open Go.RowKit

/-- Acts in a slice. -/
structure ActsAt (w : World) (A : Option Addr) (l : List AV) : Prop where
  ok : ∀ v ∈ l, AvOk w v
  cells : 0 < l.length → ∃ ad, A = some ad ∧ ad.block < w.heap.size ∧ CellsAt 11 avF w ad l
theorem act_get {w wr : World} {A : Option Addr} {l : List AV} (h : ActsAt w A l) (hg : Grew w wr) {i : Nat} (hi : i < l.length) : ∃ ad v, A = some ad ∧ l[i]? = some v ∧ (∀ j u, (avF v)[j]? = some u → wr.cell? ((ad.add (i * 11)).add j) = some u) ∧ ad.block < wr.heap.size ∧ AvOk w v := by
  obtain ⟨ad, e, hb, hc⟩ := h.cells (by omega)
  have hv := List.getElem?_eq_getElem hi
  refine ⟨ad, l[i], e, hv, fun j u hu => ?_, Nat.lt_of_lt_of_le hb hg.below.size, h.ok _ (List.getElem_mem hi)⟩
  rw [add_add, hg.below.cell (by rw [block_add]; exact hb)]
  exact hc i _ hv j u hu
/-- The Store and the reference's objects, apart from each other. -/
structure RunAt (w0 w : World) (B : Nat) (up : List Nat) (s : SV) (A : Option Addr) (c : Nat) (l : List OV) : Prop where
  st : StoreAt w B s
  own : OwnO 52 w B A c l
  eq : objsI s.its = objs l
  sep : ∀ k, Owns s k → ¬ AtRow A k
  fsep : ∀ v ∈ l, 0 < v.o.f.length → ∀ ad, v.A = some ad → ¬ Owns s ad.block
  usep : ∀ ad, s.U = some ad → ¬ AtRow A ad.block
  up : s.up = up
  low : w0.heap.size ≤ B
  grew : Grew w0 w
theorem RunAt.more {w0 w w' : World} {B : Nat} {up : List Nat} {s : SV} {A : Option Addr} {c : Nat} {l : List OV} (h : RunAt w0 w B up s A c l) (hg : Grew w w') : RunAt w0 w' B up s A c l :=
  ⟨h.st.grew hg, h.own.grew hg, h.eq, h.sep, h.fsep, h.usep, h.up, h.low, h.grew.trans hg⟩
theorem RunAt.ublk {w0 w : World} {B : Nat} {up : List Nat} {s : SV} {A : Option Addr} {c : Nat} {l : List OV} (h : RunAt w0 w B up s A c l) : ∀ ad, s.U = some ad → ad.block < w.heap.size := fun ad e => by
  obtain ⟨ad', h1, h2, _⟩ := h.st.up.2 (La.valid_spec h.st.valid).1
  rw [e] at h1
  cases h1
  exact h2
theorem RunAt.len {w0 w : World} {B : Nat} {up : List Nat} {s : SV} {A : Option Addr} {c : Nat} {l : List OV} (h : RunAt w0 w B up s A c l) : s.its.length = l.length := by
  have h1 := congrArg List.length h.eq
  rwa [objsI_len, objs_len] at h1
theorem RunAt.may {w0 w : World} {B : Nat} {up : List Nat} {s : SV} {A : Option Addr} {c : Nat} {l : List OV} (h : RunAt w0 w B up s A c l) : ∀ v ∈ l, Ob.mayB up.length v.o = true := fun v hv => by
  have h1 := objs_mem hv
  rw [← h.eq] at h1
  obtain ⟨x, hx, e⟩ := List.mem_map.1 h1
  rw [← e, ← h.up]
  exact h.st.ok x hx
/-- A Put by both, that was refused. -/
theorem RunAt.put {w0 w w1 w2 : World} {B : Nat} {up : List Nat} {s : SV} {A : Option Addr} {c : Nat} {l : List OV} (h : RunAt w0 w B up s A c l) {i k under : Int} {v : Ob.Val} {e e2 : Ending} (hr : RPut w up A c l i k under v e w1) (hp : PutPost w1 B s i k under v e2 w2) :
    ∃ (s2 : SV) (A2 : Option Addr) (c2 : Nat) (l2 : List OV), e = .returned (.tuple #[.slice A2 l2.length c2, .int .i64 ((Ob.putCode up (objs l) i k under v : Nat) : Int)]) ∧ e2 = .returned (errVal (Ob.putCode up (objs l) i k under v)) ∧ RunAt w0 w2 B up s2 A2 c2 l2 ∧ s2.g = s.g ∧ l2.length = l.length := by
  obtain ⟨s2, he2, q1, q2, q3, q4, q5, q6, q7⟩ := hp
  rw [h.up, h.eq] at he2 q5
  rcases hr with ⟨hc, he, hg⟩ | ⟨hc, l2, A2, c2, he, ho, hl, hg, hb⟩
  · have hR := h.more hg
    rw [Ob.put_bad hc] at q5
    refine ⟨s2, A, c, l, he, he2, ⟨q1, hR.own.kept q6 (fun k hk ho => hR.sep k ho hk) hR.fsep, q5, ?_, ?_, ?_, by rw [q3, h.up], h.low, own_grew hR.st hR.low hR.grew q6⟩, q2, rfl⟩
    · intro k hk ha
      rcases q7 k hk with h1 | h1
      · exact hR.sep k h1 ha
      · have := (at_row_lt hR.own.row k ha).2; omega
    · intro v hv h0 ad e1 hk
      rcases q7 _ hk with h1 | h1
      · exact hR.fsep v hv h0 ad e1 h1
      · have := (hR.own.ok v hv).blk h0 ad e1; omega
    · intro ad e1
      rw [q4] at e1
      exact hR.usep ad e1
  · have hsz : B ≤ w.heap.size := Nat.le_trans h.st.low (Nat.le_of_lt h.st.blk.lt)
    have hst := h.st.grew hg
    have hlow : ∀ k, AtRow A2 k → w.heap.size ≤ k ∧ k < w1.heap.size := fun k hk => at_row_lt ho.row k hk
    have hfs : ∀ v ∈ l2, 0 < v.o.f.length → ∀ ad, v.A = some ad → ¬ Owns s ad.block := fun v hv h0 ad e1 hk => by
      rcases hb v hv h0 ad e1 with h1 | ⟨u, hu, hu0, hue⟩
      · have := (h.st.owns hk).2; omega
      · exact h.fsep u hu hu0 ad hue hk
    have hlen : l2.length = l.length := by
      have h1 := congrArg List.length hl
      rwa [objs_len, Ob.put_len, objs_len] at h1
    refine ⟨s2, A2, c2, l2, by rw [hc]; exact he, he2, ⟨q1, (ho.kept q6 (fun k hk hw => by have h1 := (hlow k hk).1; have h2 := (h.st.owns hw).2; omega) hfs).low hsz, by rw [q5, hl], ?_, ?_, ?_, by rw [q3, h.up], h.low, own_grew hst h.low (h.grew.trans hg) q6⟩, q2, hlen⟩
    · intro k hk ha
      have h3 := hlow k ha
      rcases q7 k hk with h1 | h1
      · have := (h.st.owns h1).2; omega
      · omega
    · intro v hv h0 ad e1 hk
      rcases q7 _ hk with h1 | h1
      · exact hfs v hv h0 ad e1 h1
      · have := (ho.ok v hv).blk h0 ad e1; omega
    · intro ad e1 ha
      rw [q4] at e1
      have h1 := h.ublk ad e1
      have h2 := (hlow _ ha).1
      omega
/-- An Add by the Store, and an append behind. -/
theorem RunAt.add {w0 w w1 w2 w3 : World} {B : Nat} {up : List Nat} {s : SV} {A A' : Option Addr} {c c' : Nat} {l : List OV} (h : RunAt w0 w B up s A c l) {y : OV} (hy : OvOk w0 y) (hi : AddIn w B s y.o w1) (hg : Grew w1 w2)
    (hr : ∀ s2, OwnO 52 w2 B A c l → StoreAt w2 B s2 → Row w3 B 52 4 A' (l.length + 1) c' (l.flatMap ovF ++ ovF y)) (hk : Kept (AtRow A) w2 w3) (ht : RowTo w2 A A') :
    ∃ s2, RunAt w0 w3 B up s2 A' c' (l ++ [y]) ∧ s2.g = s.g := by
  obtain ⟨s2, q1, q2, q3, q4, q5, q6, q7⟩ := hi
  have hy2 : 0 < y.o.f.length → ∀ ad, y.A = some ad → ad.block < w0.heap.size := fun h0 => hy.blk h0
  have hown : OwnO 52 w2 B A c l := (h.own.kept q6 (fun k ha ho => h.sep k ho ha) h.fsep).grew hg
  have hst := q1.grew hg
  have hsep : ∀ k, Owns s2 k → ¬ AtRow A k := fun k hk1 ha => by
    rcases q7 k hk1 with h1 | h1
    · exact h.sep k h1 ha
    · have := (at_row_lt h.own.row k ha).2; omega
  have hus : ∀ ad, s2.U = some ad → ¬ AtRow A ad.block := fun ad e => by rw [q4] at e; exact h.usep ad e
  have hgr : Grew w0 w2 := (own_grew h.st h.low h.grew q6).trans hg
  have hyA : 0 < y.o.f.length → ∀ ad, y.A = some ad → ¬ AtRow A ad.block := fun h0 ad e ha => by
    have h1 := hy2 h0 ad e
    have h2 := (at_row_lt h.own.row _ ha).1
    have h3 := h.low
    omega
  refine ⟨s2, ⟨hst.kept hk (fun k ha ho => hsep k ho ha) hus, hown.app (hr s2 hown hst) hk ht (hy.grew hgr) hyA, by rw [q5, h.eq, objs_snoc], ?_, ?_, ?_, by rw [q3, h.up], h.low, hk.grew hgr (fun k ha => Nat.le_trans h.low (at_row_lt h.own.row k ha).1)⟩, q2⟩
  · intro k hk1 ha
    rcases rowto_at ht ha with h1 | h1
    · exact hsep k hk1 h1
    · have := (hst.owns hk1).2; omega
  · intro v hv h0 ad e hk1
    rcases List.mem_append.1 hv with hv | hv
    · rcases q7 _ hk1 with h1 | h1
      · exact h.fsep v hv h0 ad e h1
      · have := (h.own.ok v hv).blk h0 ad e; omega
    · obtain rfl := List.mem_singleton.1 hv
      have h1 := hy2 h0 ad e
      have h2 := (q1.owns hk1).1
      have h3 := h.low
      omega
  · intro ad e ha
    rcases rowto_at ht ha with h1 | h1
    · exact hus ad e h1
    · obtain ⟨ad', h2, h3, _⟩ := hst.up.2 (La.valid_spec hst.valid).1
      rw [e] at h2
      cases h2
      omega
end Go.Proofs.YtcfknfiddadgbaaDoor
